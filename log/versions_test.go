package log_test

import (
	"bytes"
	"math"
	"math/rand"
	"slices"
	"testing"

	"undercroft/api"
	"undercroft/log"
	"undercroft/segment"
)

// written is all blocks of s in the order in which they were written, those that are open last.
func written(s log.State) []segment.Block {
	segs := slices.Clone(s.Segs)
	slices.SortFunc(segs, func(a, b segment.Seg) int { return a.Seq - b.Seq })
	var all []segment.Block
	for _, g := range segs {
		all = append(all, g.Blocks...)
	}
	return append(all, s.Open...)
}

// got is what s tells of a block, by the chapter's words.
func got(s log.State, owner, index int) ([]byte, bool) {
	all := written(s)
	slices.Reverse(all)
	for _, b := range all {
		if b.Owner == owner && b.Index == index {
			return b.Data, len(b.Data) > 0
		}
	}
	return nil, false
}

// live is the live blocks of a slot, by the chapter's words: of each block, how many versions stand behind it, and how many in all.
func live(s log.State, slot int) []segment.Block {
	var list []segment.Block
	for i, b := range s.Segs[slot].Blocks {
		behind, count := 0, 0
		tally := func(seq, place int, c segment.Block) {
			if c.Owner != b.Owner || c.Index != b.Index {
				return
			}
			count++
			if seq > s.Segs[slot].Seq || seq == s.Segs[slot].Seq && place > i {
				behind++
			}
		}
		for _, g := range s.Segs {
			for place, c := range g.Blocks {
				tally(g.Seq, place, c)
			}
		}
		for place, c := range s.Open {
			tally(math.MaxInt, place, c)
		}
		if behind == 0 && (len(b.Data) > 0 || count > 1) {
			list = append(list, b)
		}
	}
	return list
}

// numbers holds places, those at the edges and beyond them among them.
func numbers() []int {
	list := []int{math.MinInt, -highestNext, 1 << 31, 1 << 32, 1<<32 + 1, math.MaxInt}
	for n := -2; n <= mostSlots+1; n++ {
		list = append(list, n)
	}
	return list
}

// hold holds all that is told of s against the chapter's words.
func hold(t *testing.T, name string, s log.State) {
	t.Helper()
	var there []segment.Block
	for owner := range 9 {
		for index := range 9 {
			want, wantOK := got(s, owner, index)
			if data, ok, err := log.Get(s, owner, index); ok != wantOK || !bytes.Equal(data, want) || err != api.OK {
				t.Fatalf("%s: %v: Get(%d, %d) = %v, %v, %d", name, s, owner, index, data, ok, err)
			}
		}
	}
	for _, b := range written(s) {
		if data, ok := got(s, b.Owner, b.Index); ok {
			there = append(there, segment.Block{Owner: b.Owner, Index: b.Index, Data: data})
		}
	}
	slices.SortFunc(there, func(a, b segment.Block) int {
		if a.Owner != b.Owner {
			return a.Owner - b.Owner
		}
		return a.Index - b.Index
	})
	there = slices.CompactFunc(there, sameBlock)
	if all, err := log.All(s); err != api.OK || !sameBlocks(all, there) {
		t.Fatalf("%s: %v: All = %v, %d, want %v", name, s, all, err, there)
	}
	for _, slot := range numbers() {
		holdSlot(t, name, s, slot)
	}
	holdSeal(t, name, s)
}

// holdSlot holds Live and Free of a slot against the chapter's words.
func holdSlot(t *testing.T, name string, s log.State, slot int) {
	t.Helper()
	list, liveErr := log.Live(s, slot)
	freed, freeErr := log.Free(s, slot)
	if slot < 0 || slot >= len(s.Segs) || len(s.Segs[slot].Blocks) == 0 {
		if liveErr != api.ErrNone || len(list) != 0 || freeErr != api.ErrNone || !none(freed) {
			t.Fatalf("%s: %v: Live(%d) = %v, %d, Free = %v, %d", name, s, slot, list, liveErr, freed, freeErr)
		}
		return
	}
	want := live(s, slot)
	if liveErr != api.OK || !sameBlocks(list, want) {
		t.Fatalf("%s: %v: Live(%d) = %v, %d, want %v", name, s, slot, list, liveErr, want)
	}
	if len(want) > 0 {
		if freeErr != api.ErrLive || !none(freed) {
			t.Fatalf("%s: %v: Free(%d) = %v, %d", name, s, slot, freed, freeErr)
		}
	} else if freeErr != api.OK || !same(freed, with(s, slot, segment.Seg{})) {
		t.Fatalf("%s: %v: Free(%d) = %v, %d", name, s, slot, freed, freeErr)
	}
}

// holdSeal holds Seal against the chapter's words.
func holdSeal(t *testing.T, name string, s log.State) {
	t.Helper()
	at := -1
	for slot := len(s.Segs) - 1; slot >= 0; slot-- {
		if len(s.Segs[slot].Blocks) == 0 && !s.Held[slot] {
			at = slot
		}
	}
	want := api.OK
	if len(s.Open) == 0 {
		want = api.ErrNone
	} else if at < 0 || s.Next == highestNext {
		want = api.ErrFull
	}
	sealed, slot, err := log.Seal(s)
	if want != api.OK {
		if err != want || slot != 0 || !none(sealed) {
			t.Fatalf("%s: %v: Seal = %v, %d, %d, want %d", name, s, sealed, slot, err, want)
		}
		return
	}
	next := opened(with(s, at, seg(s.Next, s.Open...)))
	next.Next++
	if err != api.OK || slot != at || !same(sealed, next) {
		t.Fatalf("%s: %v: Seal = %v, %d, %d, want %v, %d", name, s, sealed, slot, err, next, at)
	}
	if err := log.Check(sealed); err != api.OK {
		t.Fatalf("%s: %v: Check behind Seal = %d", name, s, err)
	}
}

// P15.1, P15.2: what is told of states at the edges.
func TestStates(t *testing.T) {
	for name, s := range rightStates() {
		hold(t, name, s)
	}
}

// P15.1, P15.2: what is told of states by chance, that no calls have made.
func TestStatesByChance(t *testing.T) {
	chance := rand.New(rand.NewSource(1515))
	blocks := func(n int) []segment.Block {
		var l []segment.Block
		for range n {
			l = append(l, block(1+chance.Intn(4), chance.Intn(3), []string{"", "", "a", "b", "ab"}[chance.Intn(5)]))
		}
		return l
	}
	for range 3000 {
		slots := 1 + chance.Intn(6)
		s := of(2*slots+1, make([]segment.Seg, slots)...)
		for slot, seq := range chance.Perm(2 * slots)[:slots] {
			if chance.Intn(4) > 0 {
				s.Segs[slot] = seg(seq+1, blocks(1+chance.Intn(4))...)
			}
			s.Held[slot] = chance.Intn(4) == 0
		}
		s.Next += chance.Intn(2) * chance.Intn(1000)
		s.Open = blocks(chance.Intn(4))
		if err := log.Check(s); err != api.OK {
			t.Fatalf("%v may not be: %d", s, err)
		}
		hold(t, "by chance", s)
	}
}

// P15.1: a block is found in Open ahead of segments, there in that of the greatest Seq, there at the last place.
func TestGet(t *testing.T) {
	sealed := of(9, seg(8, block(1, 0, "new"), block(1, 1, "x"), block(1, 0, "newest")), seg(2, block(1, 0, "old")), seg(5, block(1, 0, "elder"), block(2, 0, "y")))
	for _, c := range []struct {
		s            log.State
		owner, index int
		want         string
	}{
		{sealed, 1, 0, "newest"},
		{sealed, 1, 1, "x"},
		{sealed, 2, 0, "y"},
		{sealed, 2, 1, ""},
		{sealed, 3, 0, ""},
		{sealed, 0, 1, ""},
		{sealed, 0, 0, ""},
		{sealed, -1, -1, ""},
		{sealed, math.MaxInt, math.MinInt, ""},
		{sealed, 1<<32 + 1, 0, ""},
		{sealed, 1, 1 << 32, ""},
		{sealed, 1, 256, ""},
		{opened(sealed, block(1, 0, "open")), 1, 0, "open"},
		{opened(sealed, block(1, 0, "open"), block(1, 0, "")), 1, 0, ""},
		{opened(sealed, block(1, 0, ""), block(1, 0, "back")), 1, 0, "back"},
		{opened(sealed, block(1, 2, "open")), 1, 0, "newest"},
		{opened(sealed, block(1, 2, "open")), 1, 2, "open"},
	} {
		if data, ok, err := log.Get(c.s, c.owner, c.index); string(data) != c.want || ok != (c.want != "") || err != api.OK {
			t.Errorf("Get(%d, %d) = %q, %v, %d, want %q", c.owner, c.index, data, ok, err, c.want)
		}
		if data, ok, _ := log.Get(c.s, c.owner, c.index); !ok && data != nil {
			t.Errorf("Get(%d, %d) is not nil", c.owner, c.index)
		}
	}
}

// P15.1: All is in the order of owners and then of indexes, as numbers, without those that are gone.
func TestAll(t *testing.T) {
	s := opened(of(9, seg(8, block(10, 2, "a"), block(2, 10, "b"), block(highestOwner, 0, "c")), seg(3, block(2, 9, "d"), block(1, highestIndex, "e"), block(10, 2, "old"))),
		block(1, 0, "f"), block(2, 9, ""), block(3, 0, ""), block(9, 0, "g"))
	want := []segment.Block{block(1, 0, "f"), block(1, highestIndex, "e"), block(2, 10, "b"), block(9, 0, "g"), block(10, 2, "a"), block(highestOwner, 0, "c")}
	for range 50 {
		if all, err := log.All(s); err != api.OK || !sameBlocks(all, want) {
			t.Fatalf("All = %v, %d", all, err)
		}
	}
}

// P15.2: which blocks are live: the last versions, and those that are gone only where they hide another one.
func TestLive(t *testing.T) {
	x, gone, y := block(1, 0, "x"), block(1, 0, ""), block(2, 0, "y")
	for name, c := range map[string]struct {
		s    log.State
		want []segment.Block
	}{
		"the only one":                  {of(9, seg(5, x)), []segment.Block{x}},
		"in order":                      {of(9, seg(5, y, x, block(1, 1, "z"))), []segment.Block{y, x, block(1, 1, "z")}},
		"once, the last":                {of(9, seg(5, x, y, block(1, 0, "w"))), []segment.Block{y, block(1, 0, "w")}},
		"alike twice":                   {of(9, seg(5, x, x)), []segment.Block{x}},
		"a later one elsewhere":         {of(9, seg(5, x, y), seg(6, x)), []segment.Block{y}},
		"a later one in a lower slot":   {with(of(9, seg(5, x), seg(6, y, x)), 0, seg(5, y, x)), nil},
		"an elder one elsewhere":        {of(9, seg(5, x, y), seg(4, x)), []segment.Block{x, y}},
		"a later one in Open":           {opened(of(9, seg(5, x, y)), x), []segment.Block{y}},
		"another kind in Open":          {opened(of(9, seg(5, x)), block(1, 1, "z")), []segment.Block{x}},
		"gone alone":                    {of(9, seg(5, gone)), nil},
		"gone, hides in its segment":    {of(9, seg(5, x, gone)), []segment.Block{gone}},
		"gone, hides elsewhere":         {of(9, seg(5, gone), seg(4, x)), []segment.Block{gone}},
		"gone twice in its segment":     {of(9, seg(5, gone, gone)), []segment.Block{gone}},
		"gone, and elder says so, too":  {of(9, seg(5, gone), seg(4, gone)), []segment.Block{gone}},
		"gone, a later one elsewhere":   {of(9, seg(5, gone), seg(6, x)), nil},
		"gone, a later one in Open":     {opened(of(9, seg(5, x, gone)), x), nil},
		"gone, and later says so, too":  {opened(of(9, seg(5, x, gone)), gone), nil},
		"gone, there again behind it":   {of(9, seg(5, gone, x)), []segment.Block{x}},
		"gone, another owner and index": {of(9, seg(5, gone), seg(4, y, block(1, 1, "z"))), nil},
	} {
		list, err := log.Live(c.s, 0)
		if err != api.OK || !sameBlocks(list, c.want) {
			t.Errorf("%s: Live = %v, %d", name, list, err)
		}
		wantErr := api.OK
		if len(c.want) > 0 {
			wantErr = api.ErrLive
		}
		if _, err := log.Free(c.s, 0); err != wantErr {
			t.Errorf("%s: Free = %d", name, err)
		}
	}
}

// P15.2: what Seal refuses, in the order of the chapter, and the slot that it gives.
func TestSeal(t *testing.T) {
	x := block(1, 0, "x")
	for name, c := range map[string]struct {
		s    log.State
		slot int
		want api.Errno
	}{
		"nothing open":                  {of(1, seg(0)), 0, api.ErrNone},
		"nothing open, none free":       {of(2, seg(1, x)), 0, api.ErrNone},
		"nothing open, the last number": {of(highestNext, seg(0)), 0, api.ErrNone},
		"none free":                     {opened(of(2, seg(1, x)), x), 0, api.ErrFull},
		"the free one held":             {holding(opened(of(2, seg(1, x), seg(0)), x), 1), 0, api.ErrFull},
		"the last number":               {opened(of(highestNext, seg(0)), x), 0, api.ErrFull},
		"the last but one":              {opened(of(highestNext-1, seg(0)), x), 0, api.OK},
		"the first":                     {opened(of(1, seg(0), seg(0)), x), 0, api.OK},
		"the second":                    {opened(of(2, seg(1, x), seg(0), seg(0)), x), 1, api.OK},
		"the second, the first held":    {holding(opened(of(2, seg(0), seg(0), seg(1, x)), x), 0), 1, api.OK},
		"one in use held":               {holding(opened(of(2, seg(0), seg(1, x)), x), 1), 0, api.OK},
		"the last slot":                 {opened(with(filled(mostSlots), mostSlots-1, segment.Seg{}), x), mostSlots - 1, api.OK},
	} {
		if s, slot, err := log.Seal(c.s); err != c.want || slot != c.slot || err == api.OK && (s.Next != c.s.Next+1 || len(s.Open) != 0) {
			t.Errorf("%s: Seal = %v, %d, %d", name, s, slot, err)
		}
	}
}
