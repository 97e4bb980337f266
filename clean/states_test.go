package clean_test

import (
	"bytes"
	"math"
	"slices"
	"strconv"
	"strings"

	"undercroft/log"
	"undercroft/segment"
)

const (
	mostSlots    = 64
	mostBlocks   = 8
	longest      = 32
	highest      = 1 << 40
	highestOwner = 1<<31 - 1
	highestIndex = 255
)

func block(owner, index int, data string) segment.Block {
	return segment.Block{Owner: owner, Index: index, Data: []byte(data)}
}

func seg(seq int, blocks ...segment.Block) segment.Seg {
	return segment.Seg{Seq: seq, Blocks: blocks}
}

// of is a state of these segments, none of its slots held.
func of(next int, segs ...segment.Seg) log.State {
	return log.State{Segs: segs, Held: make([]bool, len(segs)), Next: next}
}

// opened is s with these blocks open.
func opened(s log.State, blocks ...segment.Block) log.State {
	s.Open = blocks
	return s
}

// holding is s with these slots held.
func holding(s log.State, slots ...int) log.State {
	s.Held = slices.Clone(s.Held)
	for _, slot := range slots {
		s.Held[slot] = true
	}
	return s
}

// with is s with another segment at a slot.
func with(s log.State, slot int, g segment.Seg) log.State {
	s.Segs = slices.Clone(s.Segs)
	s.Segs[slot] = g
	return s
}

// many is n blocks of as many kinds, all of one owner.
func many(owner, n int) []segment.Block {
	var l []segment.Block
	for i := range n {
		l = append(l, block(owner, i, strings.Repeat("m", 1+i)))
	}
	return l
}

// partly is n blocks of one owner, of which as many are live as there are kinds.
func partly(owner, kinds, n int) []segment.Block {
	var l []segment.Block
	for i := range n {
		l = append(l, block(owner, min(i, kinds-1), "p"+strconv.Itoa(i)))
	}
	return l
}

// filled is a state of n slots that are all in use; their numbers fall, and each has eight blocks, of which some are of kinds that others have, too.
func filled(n int) log.State {
	s := of(3*n + 1)
	for i := range n {
		var blocks []segment.Block
		for k := range mostBlocks {
			blocks = append(blocks, block(1+(i+k)%7, i%5, strings.Repeat("f", (i*k)%(longest+1))))
		}
		s.Segs = append(s.Segs, seg(3*(n-i), blocks...))
	}
	s.Held = make([]bool, n)
	return s
}

// whole is a state of n slots that are all in use, with eight live blocks each.
func whole(n int) log.State {
	s := of(n + 1)
	for i := range n {
		s.Segs = append(s.Segs, seg(1+i, many(1+i, mostBlocks)...))
	}
	s.Held = make([]bool, n)
	return s
}

func sameBlocks(a, b []segment.Block) bool {
	return slices.EqualFunc(a, b, func(x, y segment.Block) bool {
		return x.Owner == y.Owner && x.Index == y.Index && bytes.Equal(x.Data, y.Data)
	})
}

// same tells whether two states are alike; nil and empty lists are.
func same(a, b log.State) bool {
	alike := func(x, y segment.Seg) bool { return x.Seq == y.Seq && sameBlocks(x.Blocks, y.Blocks) }
	return slices.EqualFunc(a.Segs, b.Segs, alike) && slices.Equal(a.Held, b.Held) && sameBlocks(a.Open, b.Open) && a.Next == b.Next
}

// none tells whether a state is zero.
func none(s log.State) bool {
	return same(s, log.State{})
}

// rightStates holds states that may be, those at the edges among them.
func rightStates() map[string]log.State {
	x, gone, y := block(1, 0, "x"), block(1, 0, ""), block(2, 0, "y")
	all := map[string]log.State{
		"one in use":                        of(2, seg(1, x)),
		"one in use, one free":              of(2, seg(1, x), seg(0)),
		"a free one with empty lists":       {Segs: []segment.Seg{{Blocks: []segment.Block{}}}, Held: []bool{false}, Open: []segment.Block{}, Next: 1},
		"the highest numbers":               of(highest, seg(highest-1, x), seg(highest-2, y), seg(1, x), seg(0)),
		"the highest but one":               of(highest-1, seg(highest-2, x), seg(3, y), seg(0), seg(0)),
		"the highest but one, eight open":   opened(of(highest-1, seg(highest-2, x), seg(3, y), seg(0), seg(0)), many(9, mostBlocks)...),
		"free ahead":                        of(9, seg(0), seg(4, x, gone)),
		"held and free":                     holding(of(3, seg(0), seg(2, x), seg(0)), 0),
		"held and in use":                   holding(of(3, seg(0), seg(2, x), seg(0)), 1),
		"all free ones held":                holding(of(3, seg(0), seg(2, x, y), seg(0), seg(1, y)), 0, 2),
		"all held":                          holding(of(3, seg(0), seg(2, x), seg(0)), 0, 1, 2),
		"all in use, some open":             opened(of(9, seg(7, x), seg(3, gone), seg(8, block(2, 1, "y"))), y, gone),
		"numbers that fall":                 of(9, seg(8, x), seg(3, block(1, 0, "old")), seg(1, gone), seg(0)),
		"gone, and nothing else":            of(4, seg(3, gone), seg(0)),
		"gone, hides in its segment":        of(4, seg(3, x, gone), seg(0)),
		"gone, hides elsewhere":             of(5, seg(4, gone, y), seg(3, x), seg(0)),
		"gone, and there again behind it":   of(4, seg(3, gone, x), seg(0)),
		"gone, but open again":              opened(of(5, seg(4, gone), seg(3, x), seg(0)), block(1, 0, "new")),
		"gone in Open":                      opened(of(5, seg(4, x, y), seg(3, x), seg(0)), gone),
		"a later one in Open":               opened(of(5, seg(4, x, y), seg(3, x), seg(0)), block(1, 0, "new")),
		"seven live of eight":               of(9, seg(4, partly(1, 7, mostBlocks)...), seg(0)),
		"eight live, one free":              of(9, seg(4, many(1, mostBlocks)...), seg(0)),
		"eight live, one in Open, too":      opened(of(9, seg(4, many(1, mostBlocks)...), seg(0)), block(1, 3, "new")),
		"three live, five open":             opened(of(9, seg(4, many(1, 3)...), seg(0)), many(9, 5)...),
		"four live, five open, one free":    opened(of(9, seg(4, many(1, 4)...), seg(0)), many(9, 5)...),
		"four live, five open, two free":    opened(of(9, seg(4, many(1, 4)...), seg(0), seg(0)), many(9, 5)...),
		"eight live, seven open":            opened(of(9, seg(0), seg(4, many(1, mostBlocks)...), seg(0)), many(9, 7)...),
		"one live, eight open, one free":    opened(of(9, seg(4, x), seg(0)), many(9, mostBlocks)...),
		"one live, eight open, two free":    opened(of(9, seg(0), seg(4, x), seg(0)), many(9, mostBlocks)...),
		"none live, eight open, none free":  opened(of(9, seg(4, x)), slices.Repeat([]segment.Block{x}, mostBlocks)...),
		"the highest owner and index":       opened(of(2, seg(1, block(highestOwner, highestIndex, strings.Repeat("z", longest))), seg(0)), block(highestOwner, 0, "o"), block(1, highestIndex, "i")),
		"all in use but one":                with(filled(mostSlots), 31, segment.Seg{}),
		"all in use but two, eight open":    opened(with(with(filled(mostSlots), 31, segment.Seg{}), 5, segment.Seg{}), many(9, mostBlocks)...),
		"all in use but one that is held":   holding(with(filled(mostSlots), 31, segment.Seg{}), 31),
		"all free but one":                  with(of(2, make([]segment.Seg, mostSlots)...), mostSlots-1, seg(1, x)),
		"live all over, but for one":        with(whole(mostSlots), 40, seg(41, many(41, 7)...)),
		"live all over, but one is free":    with(whole(mostSlots), 40, segment.Seg{}),
		"live all over, last slot partly":   with(whole(mostSlots), 63, seg(64, partly(64, 5, mostBlocks)...)),
		"data that is nil":                  opened(of(2, seg(1, segment.Block{Owner: 1}), seg(0)), segment.Block{Owner: 1}),
		"of the lowest age, and the oldest": of(1000, seg(999, x), seg(1, y), seg(500, block(3, 0, "z")), seg(0)),
	}
	for _, n := range []int{1, 2, mostSlots - 1, mostSlots} {
		all[strconv.Itoa(n)+" free"] = of(1, make([]segment.Seg, n)...)
		all[strconv.Itoa(n)+" in use"] = filled(n)
		all[strconv.Itoa(n)+" live all over"] = whole(n)
		all[strconv.Itoa(n)+" in use, eight open"] = opened(filled(n), many(9, mostBlocks)...)
	}
	return all
}

// wrongStates holds states that may not be, each for one cause.
func wrongStates() map[string]log.State {
	x := block(1, 0, "x")
	all := map[string]log.State{
		"zero":                {},
		"no slots":            of(1),
		"65 free":             of(1, make([]segment.Seg, mostSlots+1)...),
		"65 in use":           filled(mostSlots + 1),
		"no Held":             {Segs: make([]segment.Seg, 2), Next: 1},
		"too few Held":        {Segs: []segment.Seg{seg(1, x), seg(0)}, Held: make([]bool, 1), Next: 2},
		"too many Held":       {Segs: make([]segment.Seg, 2), Held: make([]bool, 3), Next: 1},
		"two alike":           of(9, seg(4, x), seg(4, x)),
		"a Seq that is Next":  of(4, seg(4, x), seg(0)),
		"a Seq above Next":    of(4, seg(0), seg(5, x)),
		"the highest Seq":     of(highest, seg(highest, x)),
		"a number, no blocks": of(4, seg(2), seg(0)),
		"blocks, no number":   of(4, seg(0, x), seg(2, x)),
		"a Seq below 0":       of(4, seg(-1, x)),
		"nine blocks":         of(4, seg(1, many(1, mostBlocks+1)...), seg(0)),
		"nine open":           opened(of(4, seg(1, x), seg(0)), many(1, mostBlocks+1)...),
		"a wrong block":       of(4, seg(0), seg(1, x, block(0, 0, "x"))),
		"a long block":        of(4, seg(0), seg(1, x, block(1, 0, strings.Repeat("x", longest+1)))),
		"a wrong open one":    opened(of(4, seg(1, x), seg(0)), block(1, highestIndex+1, "x")),
		"a million free":      of(1, make([]segment.Seg, 1_000_000)...),
		"a million open":      opened(of(4, seg(0)), make([]segment.Block, 1_000_000)...),
	}
	for _, next := range []int{0, -1, math.MinInt, highest + 1, math.MaxInt} {
		all["Next "+strconv.Itoa(next)+", all free"] = of(next, seg(0))
		all["Next "+strconv.Itoa(next)+", one in use"] = of(next, seg(1, x))
	}
	return all
}
