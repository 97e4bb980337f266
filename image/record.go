package image

import (
	"bytes"
	"iter"
	"slices"

	"undercroft/api"
	"undercroft/dir"
	"undercroft/file"
	"undercroft/fs"
	"undercroft/wire"
)

// The kinds of records: what tells of all others, a node, and one that is gone.
const (
	kindHead = iota
	kindNode
	kindGone
)

// How many numbers and texts the records of nodes have.
const (
	nodeNums  = 4
	nodeTexts = 2
	goneNums  = 1
)

// laidBlock is how many octets a block takes in a text: one for its index, and its data.
const laidBlock = 1 + api.BlockSize

// record lays what is told of a state that may be; that is never more than a record holds.
func record(kind int, nums []int, texts ...[]byte) []byte {
	b, _ := wire.Encode(wire.Record{Kind: kind, Nums: nums, Texts: texts})
	return b
}

// headRecord tells how many records of each kind stand behind it.
func headRecord(next int, counts ...int) []byte {
	return record(kindHead, slices.Concat([]int{next}, counts))
}

func nodeRecord(n fs.Node) []byte {
	entries, _ := dir.Encode(n.Entries)
	return record(kindNode, []int{n.Ino, mark(n.Dir), n.Links, n.File.Size}, entries, laid(n.File.Blocks))
}

func goneRecord(ino int) []byte {
	return record(kindGone, []int{ino})
}

// mark is the number by which a record tells a directory from a file.
func mark(isDir bool) int {
	if isDir {
		return 1
	}
	return 0
}

// laid is blocks in octets, one behind the other.
func laid(blocks []file.Block) []byte {
	var out []byte
	for _, b := range blocks {
		out = append(out, byte(b.Index))
		out = append(out, b.Data...)
	}
	return out
}

// blocksIn hands out the blocks that a text holds, each in memory of its own.
func blocksIn(text []byte) iter.Seq[file.Block] {
	return func(yield func(file.Block) bool) {
		for one := range slices.Chunk(text, laidBlock) {
			if !yield(file.Block{Index: int(one[0]), Data: bytes.Clone(one[1:])}) {
				return
			}
		}
	}
}

// has tells whether a record has so many numbers and texts.
func has(r wire.Record, nums, texts int) bool {
	return len(r.Nums) == nums && len(r.Texts) == texts
}

// part reads the first record, and parts those behind it as it tells: in so many groups, one behind the other.
func part(l [][]byte, groups int) (int, [][][]byte, api.Errno) {
	// No records at all are taken for a first one of no octets, which is none.
	var first []byte
	if len(l) > 0 {
		first, l = l[0], l[1:]
	}
	r, err := wire.Decode(first)
	switch {
	case err != api.OK:
		return 0, nil, err
	case r.Kind != kindHead:
		return 0, nil, api.ErrKind
	case !has(r, 1+groups, 0):
		return 0, nil, api.ErrCount
	}
	var parts [][][]byte
	for _, count := range r.Nums[1:] {
		// One by one, as a sum of them could wrap round.
		if count < 0 || count > len(l) {
			return 0, nil, api.ErrCount
		}
		parts = append(parts, l[:count])
		l = l[count:]
	}
	if len(l) > 0 {
		return 0, nil, api.ErrCount
	}
	return r.Nums[0], parts, api.OK
}

// each hands the records of l to do, one by one, up to the first error.
func each(l [][]byte, do func(wire.Record) api.Errno) api.Errno {
	for _, b := range l {
		r, err := wire.Decode(b)
		if err != api.OK {
			return err
		}
		if err := do(r); err != api.OK {
			return err
		}
	}
	return api.OK
}

// readNode reads a node; whether it may be is asked of the whole state alone.
func readNode(r wire.Record) (fs.Node, api.Errno) {
	if r.Kind != kindNode {
		return fs.Node{}, api.ErrKind
	}
	if !has(r, nodeNums, nodeTexts) {
		return fs.Node{}, api.ErrCount
	}
	isDir := r.Nums[1] == mark(true)
	if r.Nums[1] != mark(isDir) {
		return fs.Node{}, api.ErrArg
	}
	entries, err := dir.Decode(r.Texts[0])
	if err != api.OK {
		return fs.Node{}, err
	}
	if len(r.Texts[1])%laidBlock != 0 {
		return fs.Node{}, api.ErrShort
	}
	n := fs.Node{Ino: r.Nums[0], Dir: isDir, Links: r.Nums[2], Entries: entries}
	n.File.Size = r.Nums[3]
	for b := range blocksIn(r.Texts[1]) {
		n.File.Blocks = append(n.File.Blocks, b)
	}
	return n, api.OK
}
