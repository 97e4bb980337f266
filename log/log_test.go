package log_test

import (
	"bytes"
	"maps"
	"math"
	"math/rand"
	"slices"
	"strconv"
	"strings"
	"testing"

	"undercroft/api"
	"undercroft/log"
	"undercroft/segment"
)

// The faces keep the signatures of the chapter.
var (
	_ func(int) (log.State, api.Errno)                      = log.New
	_ func(log.State) api.Errno                             = log.Check
	_ func(log.State, segment.Block) (log.State, api.Errno) = log.Put
	_ func(log.State, int, int) ([]byte, bool, api.Errno)   = log.Get
	_ func(log.State) ([]segment.Block, api.Errno)          = log.All
	_ func(log.State) (log.State, int, api.Errno)           = log.Seal
	_ func(log.State, int) ([]segment.Block, api.Errno)     = log.Live
	_ func(log.State, int) (log.State, api.Errno)           = log.Free
	_ struct {
		Segs []segment.Seg
		Held []bool
		Open []segment.Block
		Next int
	} = log.State{}
)

const (
	mostSlots    = 64
	mostBlocks   = 8
	longest      = 32
	highestNext  = 1 << 40
	highestOwner = 1<<31 - 1
	highestIndex = 255
)

func block(owner, index int, data string) segment.Block {
	return segment.Block{Owner: owner, Index: index, Data: []byte(data)}
}

func seg(seq int, blocks ...segment.Block) segment.Seg {
	return segment.Seg{Seq: seq, Blocks: blocks}
}

// of is a state of these segments, none of its slots held.
func of(next int, segs ...segment.Seg) log.State {
	return log.State{Segs: segs, Held: make([]bool, len(segs)), Next: next}
}

// opened is s with these blocks open.
func opened(s log.State, blocks ...segment.Block) log.State {
	s.Open = blocks
	return s
}

// holding is s with these slots held.
func holding(s log.State, slots ...int) log.State {
	s.Held = slices.Clone(s.Held)
	for _, slot := range slots {
		s.Held[slot] = true
	}
	return s
}

// many is n blocks of as many kinds.
func many(n int) []segment.Block {
	var l []segment.Block
	for i := range n {
		l = append(l, block(1+i/3, i%3, strings.Repeat("m", i%(longest+1))))
	}
	return l
}

// filled is a state of n slots that are all in use; their numbers fall, and each has eight blocks, of which some are of kinds that others have, too.
func filled(n int) log.State {
	s := of(3*n + 1)
	for i := range n {
		var blocks []segment.Block
		for k := range mostBlocks {
			blocks = append(blocks, block(1+(i+k)%7, i%5, strings.Repeat("f", (i*k)%(longest+1))))
		}
		s.Segs = append(s.Segs, seg(3*(n-i), blocks...))
	}
	s.Held = make([]bool, n)
	return s
}

// with is s with another segment at a slot.
func with(s log.State, slot int, g segment.Seg) log.State {
	s.Segs = slices.Clone(s.Segs)
	s.Segs[slot] = g
	return s
}

func sameBlock(a, b segment.Block) bool {
	return a.Owner == b.Owner && a.Index == b.Index && bytes.Equal(a.Data, b.Data)
}

func sameBlocks(a, b []segment.Block) bool {
	return slices.EqualFunc(a, b, sameBlock)
}

// same tells whether two states are alike; nil and empty lists are.
func same(a, b log.State) bool {
	alike := func(x, y segment.Seg) bool { return x.Seq == y.Seq && sameBlocks(x.Blocks, y.Blocks) }
	return slices.EqualFunc(a.Segs, b.Segs, alike) && slices.Equal(a.Held, b.Held) && sameBlocks(a.Open, b.Open) && a.Next == b.Next
}

// none tells whether a state is zero.
func none(s log.State) bool {
	return same(s, log.State{})
}

// rightStates holds states that may be, those at the edges among them.
func rightStates() map[string]log.State {
	x, gone := block(1, 0, "x"), block(1, 0, "")
	all := map[string]log.State{
		"one in use":                      of(2, seg(1, x)),
		"a free one with empty lists":     {Segs: []segment.Seg{{Blocks: []segment.Block{}}}, Held: []bool{false}, Open: []segment.Block{}, Next: 1},
		"data that is nil":                opened(of(2, seg(1, segment.Block{Owner: 1})), segment.Block{Owner: 2}),
		"a gap below Next":                of(900, seg(5, x), seg(899, x)),
		"the highest numbers":             of(highestNext, seg(highestNext-1, x), seg(highestNext-2, x), seg(1, x)),
		"the highest Next, all free":      opened(of(highestNext, seg(0), seg(0)), x),
		"free ahead":                      of(9, seg(0), seg(4, x, gone)),
		"free behind":                     of(9, seg(4, gone, x), seg(0)),
		"held and free":                   holding(of(3, seg(0), seg(2, x), seg(0)), 0),
		"held and in use":                 holding(of(3, seg(0), seg(2, x), seg(0)), 1),
		"all held":                        holding(opened(of(1, seg(0), seg(0)), x), 0, 1),
		"all in use, some open":           opened(of(9, seg(7, x), seg(3, gone), seg(8, block(2, 1, "y"))), x, gone),
		"the last of numbers that fall":   of(9, seg(8, x), seg(3, block(1, 0, "old")), seg(1, gone)),
		"gone, and nothing else":          of(4, seg(3, gone), seg(0)),
		"gone twice in one":               of(4, seg(3, gone, gone), seg(0)),
		"gone twice in two":               of(5, seg(3, gone), seg(4, gone)),
		"gone and there in one":           of(4, seg(3, x, gone), seg(0)),
		"there and gone in one":           of(4, seg(3, gone, x), seg(0)),
		"gone, elder in another":          of(5, seg(4, gone), seg(3, x)),
		"gone, but open again":            opened(of(5, seg(4, gone), seg(3, x)), block(1, 0, "new")),
		"gone in open":                    opened(of(5, seg(4, x), seg(3, x)), gone),
		"gone in open, and there behind":  opened(of(5, seg(4, x), seg(0)), gone, x),
		"other owners and indexes":        opened(of(5, seg(4, block(1, 1, "a"), block(2, 0, "b")), seg(3, x, block(1, 2, "c"))), block(2, 1, ""), block(3, 0, "d")),
		"the highest owner and index":     opened(of(2, seg(1, block(highestOwner, highestIndex, strings.Repeat("z", longest)))), block(highestOwner, 0, "o"), block(1, highestIndex, "i")),
		"eight open":                      opened(of(2, seg(1, x), seg(0)), many(mostBlocks)...),
		"seven open":                      opened(of(2, seg(1, x), seg(0)), many(mostBlocks-1)...),
		"eight open of one kind":          opened(of(2, seg(1, x), seg(0)), slices.Repeat([]segment.Block{x}, mostBlocks)...),
		"all in use but one":              with(filled(mostSlots), 31, segment.Seg{}),
		"all in use but one that is held": holding(opened(with(filled(mostSlots), 31, segment.Seg{}), x), 31),
		"all free but one":                with(of(2, make([]segment.Seg, mostSlots)...), mostSlots-1, seg(1, x)),
	}
	for _, n := range []int{1, 2, mostSlots - 1, mostSlots} {
		all[strconv.Itoa(n)+" free"] = of(1, make([]segment.Seg, n)...)
		all[strconv.Itoa(n)+" in use"] = filled(n)
		all[strconv.Itoa(n)+" in use, eight open"] = opened(filled(n), many(mostBlocks)...)
	}
	return all
}

// wrongBlocks holds blocks that may not stand in a segment.
func wrongBlocks() map[string]segment.Block {
	all := map[string]segment.Block{
		"all zero":   {},
		"33 octets":  block(1, 0, strings.Repeat("x", longest+1)),
		"long":       block(1, 0, strings.Repeat("x", 1<<16)),
		"wrong, all": block(0, -1, strings.Repeat("x", longest+1)),
	}
	for _, owner := range []int{0, -1, math.MinInt, highestOwner + 1, 1 << 32, 1<<32 + 1, math.MaxInt} {
		all["owner "+strconv.Itoa(owner)] = block(owner, 0, "x")
		all["gone, owner "+strconv.Itoa(owner)] = block(owner, 0, "")
	}
	for _, index := range []int{-1, math.MinInt, highestIndex + 1, 1 << 32, math.MaxInt} {
		all["index "+strconv.Itoa(index)] = block(1, index, "x")
		all["gone, index "+strconv.Itoa(index)] = block(1, index, "")
	}
	return all
}

// wrongStates holds states that may not be, each for one cause.
func wrongStates() map[string]log.State {
	x := block(1, 0, "x")
	all := map[string]log.State{
		"zero":                      {},
		"no slots":                  of(1),
		"no slots, one held":        {Held: []bool{false}, Next: 1},
		"65 free":                   of(1, make([]segment.Seg, mostSlots+1)...),
		"65 in use":                 filled(mostSlots + 1),
		"no Held":                   {Segs: make([]segment.Seg, 2), Next: 1},
		"too few Held":              {Segs: make([]segment.Seg, 2), Held: make([]bool, 1), Next: 1},
		"too many Held":             {Segs: make([]segment.Seg, 2), Held: make([]bool, 3), Next: 1},
		"two alike":                 of(9, seg(4, x), seg(4, x)),
		"two alike with free ones":  of(9, seg(0), seg(4, x), seg(0), seg(4, block(2, 2, "y")), seg(0)),
		"first and last alike":      with(filled(mostSlots), 0, seg(3, x)),
		"a Seq that is Next":        of(4, seg(4, x), seg(0)),
		"a Seq above Next":          of(4, seg(0), seg(5, x)),
		"the last one is Next":      of(4, seg(1, x), seg(2, x), seg(4, x)),
		"the highest Seq":           of(highestNext, seg(highestNext, x)),
		"a Seq above all":           of(highestNext, seg(highestNext+1, x)),
		"a number, no blocks":       of(4, seg(2), seg(0)),
		"a number, empty blocks":    of(4, segment.Seg{Seq: 2, Blocks: []segment.Block{}}),
		"blocks, no number":         of(4, seg(0, x), seg(2, x)),
		"blocks, a number below 0":  of(4, seg(-1, x)),
		"the lowest Seq":            of(4, seg(math.MinInt, x)),
		"no blocks, a Seq below 0":  of(4, seg(-1)),
		"nine blocks":               of(4, seg(1, many(mostBlocks+1)...)),
		"nine open":                 opened(of(4, seg(1, x), seg(0)), many(mostBlocks+1)...),
		"nine open, none held free": holding(opened(of(4, seg(0)), many(mostBlocks+1)...), 0),
	}
	for _, next := range []int{0, -1, math.MinInt, -highestNext, highestNext + 1, 1 << 41, math.MaxInt} {
		all["Next "+strconv.Itoa(next)+", all free"] = of(next, seg(0))
		all["Next "+strconv.Itoa(next)+", one in use"] = of(next, seg(1, x))
	}
	for name, b := range wrongBlocks() {
		all["open: "+name] = opened(of(4, seg(1, x), seg(0)), x, b)
		all["open, first: "+name] = opened(of(4, seg(1, x), seg(0)), b, x)
		all["open, alone: "+name] = opened(of(1, seg(0)), b)
		all["sealed: "+name] = of(4, seg(0), seg(1, x), seg(3, x, x, b))
		all["sealed, last slot: "+name] = with(filled(mostSlots), mostSlots-1, seg(3, b))
	}
	return all
}

// hugeStates holds states that may not be, for lists that are too long by far.
func hugeStates() map[string]log.State {
	const million = 1_000_000
	return map[string]log.State{
		"a million free":          of(1, make([]segment.Seg, million)...),
		"too many Held by far":    {Segs: make([]segment.Seg, 64), Held: make([]bool, million), Next: 1},
		"a million open":          opened(of(4, seg(0)), make([]segment.Block, million)...),
		"a million blocks in one": of(4, seg(1, make([]segment.Block, million)...)),
	}
}

// P15.1: New, and its edges.
func TestNew(t *testing.T) {
	for n := 1; n <= mostSlots; n++ {
		s, err := log.New(n)
		if err != api.OK || !same(s, of(1, make([]segment.Seg, n)...)) {
			t.Errorf("New(%d) = %v, %d", n, s, err)
		}
		if err := log.Check(s); err != api.OK {
			t.Errorf("Check(New(%d)) = %d", n, err)
		}
	}
	for _, n := range []int{0, -1, math.MinInt, mostSlots + 1, 1 << 31, 1<<32 + 1, math.MaxInt} {
		if s, err := log.New(n); err != api.ErrRange || !none(s) {
			t.Errorf("New(%d) = %v, %d", n, s, err)
		}
	}
}

// P15.1: Check, and all others first by its error, with arguments that are right and some that are wrong in another way.
func TestCheck(t *testing.T) {
	for name, s := range rightStates() {
		if err := log.Check(s); err != api.OK {
			t.Errorf("%s: Check = %d", name, err)
		}
	}
	wrong := wrongStates()
	maps.Copy(wrong, hugeStates())
	for name, s := range wrong {
		if err := log.Check(s); err != api.ErrState {
			t.Errorf("%s: Check = %d", name, err)
		}
		for _, b := range []segment.Block{{}, block(1, 0, "x"), block(1, 0, "")} {
			if got, err := log.Put(s, b); err != api.ErrState || !none(got) {
				t.Errorf("%s: Put = %v, %d", name, got, err)
			}
			if data, ok, err := log.Get(s, b.Owner, b.Index); err != api.ErrState || ok || len(data) != 0 {
				t.Errorf("%s: Get = %v, %v, %d", name, data, ok, err)
			}
		}
		if l, err := log.All(s); err != api.ErrState || len(l) != 0 {
			t.Errorf("%s: All = %v, %d", name, l, err)
		}
		if got, slot, err := log.Seal(s); err != api.ErrState || slot != 0 || !none(got) {
			t.Errorf("%s: Seal = %v, %d, %d", name, got, slot, err)
		}
		for _, slot := range []int{-1, 0, 1, mostSlots, math.MaxInt} {
			if l, err := log.Live(s, slot); err != api.ErrState || len(l) != 0 {
				t.Errorf("%s: Live(%d) = %v, %d", name, slot, l, err)
			}
			if got, err := log.Free(s, slot); err != api.ErrState || !none(got) {
				t.Errorf("%s: Free(%d) = %v, %d", name, slot, got, err)
			}
		}
	}
}

// mayStand reads the words of chapter 13 of blocks plainly.
func mayStand(blocks []segment.Block) bool {
	for _, b := range blocks {
		if b.Owner < 1 || b.Owner > highestOwner || b.Index < 0 || b.Index > highestIndex || len(b.Data) > longest {
			return false
		}
	}
	return len(blocks) <= mostBlocks
}

// mayBe reads the chapter's words of a state plainly.
func mayBe(s log.State) bool {
	for i, g := range s.Segs {
		if g.Seq == 0 && len(g.Blocks) == 0 {
			continue
		}
		for _, other := range s.Segs[:i] {
			if other.Seq == g.Seq {
				return false
			}
		}
		if g.Seq < 1 || g.Seq >= s.Next || len(g.Blocks) < 1 || !mayStand(g.Blocks) {
			return false
		}
	}
	return len(s.Segs) >= 1 && len(s.Segs) <= mostSlots && len(s.Held) == len(s.Segs) && s.Next >= 1 && s.Next <= highestNext && mayStand(s.Open)
}

// P15.1: Check of states by chance, some of which may be, and some not.
func TestCheckByChance(t *testing.T) {
	chance := rand.New(rand.NewSource(15))
	some := func(list ...int) int { return list[chance.Intn(len(list))] }
	blocks := func() []segment.Block {
		var l []segment.Block
		for range some(0, 1, 1, 2, 3, 7, 8, 8, 8+chance.Intn(30)/29) {
			b := block(1+chance.Intn(3), chance.Intn(3), strings.Repeat("c", chance.Intn(longest+1)))
			if chance.Intn(150) == 0 {
				b = block(some(0, 1, highestOwner, highestOwner+1), some(-1, 0, highestIndex, highestIndex+1), strings.Repeat("c", some(0, longest, longest+1)))
			}
			l = append(l, b)
		}
		return l
	}
	right := 0
	for range 20000 {
		s := log.State{Next: some(0, 1, 2, 3, 20, 20, 20, 20, highestNext-1, highestNext, highestNext+1), Open: blocks()}
		for range some(0, 1, 2, 3, 3, 4, 5) {
			g := segment.Seg{}
			if chance.Intn(3) > 0 {
				g = segment.Seg{Seq: 1 + chance.Intn(20), Blocks: blocks()}
			}
			if chance.Intn(60) == 0 {
				g.Seq = some(-1, 0, s.Next-1, s.Next, s.Next+1)
			}
			s.Segs = append(s.Segs, g)
		}
		s.Held = make([]bool, max(0, len(s.Segs)+some(0, 0, 0, 0, 0, 0, 0, 0, -1, 1)))
		want := api.ErrState
		if mayBe(s) {
			want = api.OK
			right++
		}
		if err := log.Check(s); err != want {
			t.Fatalf("Check(%v) = %d, want %d", s, err, want)
		}
	}
	if right < 2000 || right > 18000 {
		t.Errorf("%d of the states may be", right)
	}
}

// P15.1: Put lays a block behind the open ones, and nothing else changes.
func TestPut(t *testing.T) {
	put := []segment.Block{block(1, 0, "x"), block(1, 0, ""), {Owner: 1}, block(highestOwner, highestIndex, strings.Repeat("p", longest)), block(77, 3, "\x00")}
	for name, s := range rightStates() {
		for _, b := range put {
			got, err := log.Put(s, b)
			if len(s.Open) == mostBlocks {
				if err != api.ErrFull || !none(got) {
					t.Errorf("%s: Put = %v, %d", name, got, err)
				}
				continue
			}
			if err != api.OK || !same(got, opened(s, slices.Concat(s.Open, []segment.Block{b})...)) {
				t.Errorf("%s: Put = %v, %d", name, got, err)
			}
			if data, ok, err := log.Get(got, b.Owner, b.Index); ok != (len(b.Data) > 0) || !bytes.Equal(data, b.Data) || err != api.OK {
				t.Errorf("%s: Get behind Put = %v, %v, %d", name, data, ok, err)
			}
		}
	}
}

// P15.1: what Put refuses: a block that may not be, ahead of no room.
func TestPutRefused(t *testing.T) {
	for name, s := range rightStates() {
		for cause, b := range wrongBlocks() {
			if got, err := log.Put(s, b); err != api.ErrArg || !none(got) {
				t.Errorf("%s: Put, %s = %v, %d", name, cause, got, err)
			}
		}
	}
}

// P15.1: eight blocks are put, in their order, and no ninth.
func TestPutEight(t *testing.T) {
	s, err := log.New(1)
	for i := range mostBlocks {
		if s, err = log.Put(s, block(9-i, i, "x")); err != api.OK || len(s.Open) != i+1 {
			t.Fatalf("block %d: %d", i, err)
		}
	}
	for i, b := range s.Open {
		if !sameBlock(b, block(9-i, i, "x")) {
			t.Errorf("block %d is %v", i, b)
		}
	}
	if _, err := log.Put(s, block(1, 0, "x")); err != api.ErrFull {
		t.Error("a ninth:", err)
	}
}
