package log

import "undercroft/segment"

// kind is what the versions of a block have in common.
type kind struct {
	owner int
	index int
}

// version tells of the last version of a kind: the block, the number of its segment, its place there; and of how many versions it is the last.
type version struct {
	block segment.Block
	seq   int
	place int
	count int
}

func kindOf(b segment.Block) kind {
	return kind{b.Owner, b.Index}
}

// isGone tells whether a version says that its block is gone; a kind without versions is not there either.
func isGone(b segment.Block) bool {
	return len(b.Data) == 0
}

// lastVersions is the last version of each kind in a store that may be. Their data still lies where that of s does.
func lastVersions(s State) map[kind]version {
	last := map[kind]version{}
	note := func(seq int, blocks []segment.Block) {
		for place, b := range blocks {
			v := last[kindOf(b)]
			v.count++
			if seq >= v.seq {
				v.block, v.seq, v.place = b, seq, place
			}
			last[kindOf(b)] = v
		}
	}
	for _, seg := range s.Segs {
		note(seg.Seq, seg.Blocks)
	}
	// Open blocks have the number that they will be sealed with: all sealed ones are below it.
	note(s.Next, s.Open)
	return last
}

// liveBlocks is the blocks of a slot that are needed: a last version that says that its block is gone is needed as long as there is one that it hides. Their data still lies where that of s does.
func liveBlocks(s State, slot int) []segment.Block {
	last, seg := lastVersions(s), s.Segs[slot]
	var live []segment.Block
	for place, b := range seg.Blocks {
		v := last[kindOf(b)]
		isLast := v.seq == seg.Seq && v.place == place
		if isLast && (!isGone(b) || v.count > 1) {
			live = append(live, b)
		}
	}
	return live
}
