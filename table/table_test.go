package table_test

import (
	"math"
	"math/rand"
	"slices"
	"strconv"
	"testing"

	"undercroft/api"
	"undercroft/table"
)

// The faces keep the signatures of the chapter.
var (
	_ func(int) ([]table.Slot, api.Errno)                         = table.New
	_ func([]table.Slot) api.Errno                                = table.Check
	_ func([]table.Slot, int, int) ([]table.Slot, int, api.Errno) = table.Alloc
	_ func([]table.Slot, int, int) ([]table.Slot, api.Errno)      = table.Kill
	_ func([]table.Slot, int) ([]table.Slot, api.Errno)           = table.Free
	_ func([]table.Slot) (int, int, api.Errno)                    = table.Room
	_ struct{ Seq, Live int }                                     = table.Slot{}
)

const (
	mostSlots  = 64
	mostLive   = 8
	highestSeq = 1 << 40
)

// of is a table of slots, each told by its Seq and its Live.
func of(slots ...[2]int) []table.Slot {
	var l []table.Slot
	for _, s := range slots {
		l = append(l, table.Slot{Seq: s[0], Live: s[1]})
	}
	return l
}

// filled is a table of n slots, all in use; their numbers fall.
func filled(n int) []table.Slot {
	l := make([]table.Slot, n)
	for i := range l {
		l[i] = table.Slot{Seq: 3 * (n - i), Live: i % (mostLive + 1)}
	}
	return l
}

// with is l with another slot at a place.
func with(l []table.Slot, at, seq, live int) []table.Slot {
	l = slices.Clone(l)
	l[at] = table.Slot{Seq: seq, Live: live}
	return l
}

// rightTables holds tables that may be, those at the edges among them.
func rightTables() map[string][]table.Slot {
	all := map[string][]table.Slot{
		"one in use, none live": of([2]int{1, 0}),
		"one in use, all live":  of([2]int{1, 8}),
		"free ahead":            of([2]int{}, [2]int{4, 2}),
		"free behind":           of([2]int{4, 2}, [2]int{}),
		"free between":          of([2]int{9, 1}, [2]int{}, [2]int{}, [2]int{2, 8}, [2]int{}, [2]int{5, 0}),
		"numbers side by side":  of([2]int{2, 1}, [2]int{1, 1}, [2]int{3, 1}),
		"the highest numbers":   of([2]int{highestSeq, 8}, [2]int{highestSeq - 1, 7}, [2]int{1 << 32, 1}, [2]int{1<<32 + 1, 1}),
		"one of all free":       with(make([]table.Slot, mostSlots), mostSlots-1, highestSeq, 0),
		"one of all in use":     with(filled(mostSlots), 31, 0, 0),
	}
	for _, n := range []int{1, 2, 3, mostSlots - 1, mostSlots} {
		all[strconv.Itoa(n)+" free"] = make([]table.Slot, n)
		all[strconv.Itoa(n)+" in use"] = filled(n)
	}
	for live := range mostLive + 1 {
		all["live "+strconv.Itoa(live)] = of([2]int{7, live}, [2]int{}, [2]int{8, mostLive - live})
	}
	for _, seq := range []int{1, 2, 255, 256, 1<<31 - 1, 1 << 31, 1<<32 + 2, highestSeq - 1, highestSeq} {
		all["seq "+strconv.Itoa(seq)] = of([2]int{}, [2]int{seq, 3})
	}
	return all
}

// wrongTables holds tables that may not be, each for one cause.
func wrongTables() map[string][]table.Slot {
	all := map[string][]table.Slot{
		"nil":              nil,
		"empty":            {},
		"65 free":          make([]table.Slot, mostSlots+1),
		"65 in use":        filled(mostSlots + 1),
		"128 free":         make([]table.Slot, 2*mostSlots),
		"a million free":   make([]table.Slot, 1_000_000),
		"all alike":        slices.Repeat(of([2]int{1, 1}), mostSlots),
		"two alike":        of([2]int{1, 1}, [2]int{1, 1}),
		"alike but live":   of([2]int{1, 1}, [2]int{1, 2}),
		"alike, none live": of([2]int{5, 0}, [2]int{}, [2]int{5, 0}),
		"alike, highest":   of([2]int{highestSeq, 0}, [2]int{3, 1}, [2]int{highestSeq, 0}),
		"first and last":   with(filled(mostSlots), 0, 3, 0),
	}
	for _, at := range []int{0, 4, mostSlots - 1} {
		change := func(seq, live int) {
			name := strconv.Itoa(seq) + ", " + strconv.Itoa(live) + " at " + strconv.Itoa(at)
			all[name+" of free ones"] = with(make([]table.Slot, mostSlots), at, seq, live)
			all[name+" of those in use"] = with(filled(mostSlots), at, seq, live)
		}
		for _, seq := range []int{-1, math.MinInt, math.MinInt + 1, -highestSeq, highestSeq + 1, 1 << 41, 1 << 62, math.MaxInt} {
			change(seq, 0)
			change(seq, 1)
		}
		for _, live := range []int{-1, math.MinInt, -mostLive, mostLive + 1, 1 << 32, math.MaxInt} {
			change(1000, live)
			change(highestSeq, live)
		}
		for _, live := range []int{-1, 1, mostLive, mostLive + 1, math.MinInt, math.MaxInt} {
			change(0, live)
		}
	}
	return all
}

// P14.1: New, and its edges.
func TestNew(t *testing.T) {
	for n := 1; n <= mostSlots; n++ {
		l, err := table.New(n)
		if err != api.OK || !slices.Equal(l, make([]table.Slot, n)) {
			t.Errorf("New(%d) = %v, %d", n, l, err)
		}
		if err := table.Check(l); err != api.OK {
			t.Errorf("Check(New(%d)) = %d", n, err)
		}
	}
	for _, n := range []int{0, -1, math.MinInt, mostSlots + 1, 1 << 31, 1<<32 + 1, math.MaxInt} {
		if l, err := table.New(n); err != api.ErrRange || len(l) != 0 {
			t.Errorf("New(%d) = %v, %d", n, l, err)
		}
	}
}

// P14.1: Check, and all others first by its error.
func TestCheck(t *testing.T) {
	for name, l := range rightTables() {
		if err := table.Check(l); err != api.OK {
			t.Errorf("%s: Check = %d", name, err)
		}
	}
	for name, l := range wrongTables() {
		if err := table.Check(l); err != api.ErrState {
			t.Errorf("%s: Check = %d", name, err)
		}
		// Each with arguments that are right and with some that are wrong in another way.
		for _, n := range []int{-1, 0, 1, 5000, math.MaxInt} {
			if got, at, err := table.Alloc(l, n, 1); err != api.ErrState || at != 0 || len(got) != 0 {
				t.Errorf("%s: Alloc(%d, 1) = %v, %d, %d", name, n, got, at, err)
			}
			if got, at, err := table.Alloc(l, 5000, n); err != api.ErrState || at != 0 || len(got) != 0 {
				t.Errorf("%s: Alloc(5000, %d) = %v, %d, %d", name, n, got, at, err)
			}
			if got, err := table.Kill(l, n, 0); err != api.ErrState || len(got) != 0 {
				t.Errorf("%s: Kill(%d, 0) = %v, %d", name, n, got, err)
			}
			if got, err := table.Kill(l, 0, n); err != api.ErrState || len(got) != 0 {
				t.Errorf("%s: Kill(0, %d) = %v, %d", name, n, got, err)
			}
			if got, err := table.Free(l, n); err != api.ErrState || len(got) != 0 {
				t.Errorf("%s: Free(%d) = %v, %d", name, n, got, err)
			}
		}
		if free, live, err := table.Room(l); err != api.ErrState || free != 0 || live != 0 {
			t.Errorf("%s: Room = %d, %d, %d", name, free, live, err)
		}
	}
}

// mayBe reads the chapter's words of a table plainly.
func mayBe(l []table.Slot) bool {
	for i, s := range l {
		for _, other := range l[:i] {
			if s.Seq == other.Seq && s.Seq != 0 {
				return false
			}
		}
		if s.Seq < 0 || s.Seq > highestSeq || s.Live < 0 || s.Live > mostLive || s.Seq == 0 && s.Live != 0 {
			return false
		}
	}
	return len(l) >= 1 && len(l) <= mostSlots
}

// P14.1: Check of small tables of all numbers near the edges, and of long ones by chance.
func TestCheckAll(t *testing.T) {
	hold := func(l []table.Slot) {
		want := api.ErrState
		if mayBe(l) {
			want = api.OK
		}
		if err := table.Check(l); err != want {
			t.Errorf("Check(%v) = %d, want %d", l, err, want)
		}
	}
	var slots [][2]int
	for _, seq := range []int{-1, 0, 1, 2, highestSeq, highestSeq + 1} {
		for _, live := range []int{-1, 0, 1, mostLive, mostLive + 1} {
			slots = append(slots, [2]int{seq, live})
		}
	}
	for _, a := range slots {
		hold(of(a))
		for _, b := range slots {
			hold(of(a, b))
			for _, c := range slots {
				hold(of(a, b, c))
			}
		}
	}
	chance := rand.New(rand.NewSource(14))
	for range 5000 {
		l := make([]table.Slot, chance.Intn(mostSlots+3))
		for i := range l {
			if chance.Intn(2) > 0 {
				l[i] = table.Slot{Seq: 1 + chance.Intn(2000), Live: chance.Intn(mostLive + 1)}
			}
		}
		hold(l)
	}
}

// P14.1: the lowest free slot is given, and no other one changes.
func TestAlloc(t *testing.T) {
	for name, l := range rightTables() {
		want := slices.IndexFunc(l, func(s table.Slot) bool { return s.Seq == 0 })
		for _, seq := range []int{1 << 20, 5000} {
			for live := range mostLive + 1 {
				got, at, err := table.Alloc(l, seq, live)
				if want < 0 {
					if err != api.ErrFull || at != 0 || len(got) != 0 {
						t.Errorf("%s: Alloc(%d, %d) = %v, %d, %d", name, seq, live, got, at, err)
					}
				} else if err != api.OK || at != want || !slices.Equal(got, with(l, want, seq, live)) {
					t.Errorf("%s: Alloc(%d, %d) = %v, %d, %d", name, seq, live, got, at, err)
				}
			}
		}
	}
	bare := make([]table.Slot, 3)
	for _, seq := range []int{1, 2, 1 << 32, highestSeq - 1, highestSeq} {
		if got, at, err := table.Alloc(bare, seq, mostLive); err != api.OK || at != 0 || !slices.Equal(got, with(bare, 0, seq, mostLive)) {
			t.Errorf("Alloc(%d) = %v, %d, %d", seq, got, at, err)
		}
	}
}

// P14.1: what Alloc refuses, in the order of the chapter: a number out of its range, one that a slot has, no room.
func TestAllocRefused(t *testing.T) {
	full, open := of([2]int{3, 1}, [2]int{highestSeq, 0}), of([2]int{3, 1}, [2]int{}, [2]int{highestSeq, 0})
	for _, c := range []struct {
		l         []table.Slot
		seq, live int
		want      api.Errno
	}{
		{open, 0, 1, api.ErrRange},
		{open, -1, 1, api.ErrRange},
		{open, math.MinInt, 1, api.ErrRange},
		{open, highestSeq + 1, 1, api.ErrRange},
		{open, 1<<41 + 1, 1, api.ErrRange},
		{open, math.MaxInt, 1, api.ErrRange},
		{open, 4, -1, api.ErrRange},
		{open, 4, math.MinInt, api.ErrRange},
		{open, 4, mostLive + 1, api.ErrRange},
		{open, 4, math.MaxInt, api.ErrRange},
		{open, 3, -1, api.ErrRange},
		{open, 3, mostLive + 1, api.ErrRange},
		{open, 3, 1, api.ErrTwice},
		{open, 3, 0, api.ErrTwice},
		{open, highestSeq, 8, api.ErrTwice},
		{full, 0, 1, api.ErrRange},
		{full, highestSeq + 1, 1, api.ErrRange},
		{full, 4, mostLive + 1, api.ErrRange},
		{full, 3, -1, api.ErrRange},
		{full, 3, 1, api.ErrTwice},
		{full, highestSeq, 0, api.ErrTwice},
		{full, 4, 0, api.ErrFull},
		{full, 1, 8, api.ErrFull},
		{filled(mostSlots), 3 * mostSlots, 8, api.ErrTwice},
		{filled(mostSlots), 3, 8, api.ErrTwice},
		{filled(mostSlots), 4, 8, api.ErrFull},
	} {
		if got, at, err := table.Alloc(c.l, c.seq, c.live); err != c.want || at != 0 || len(got) != 0 {
			t.Errorf("Alloc(%v, %d, %d) = %v, %d, %d, want %d", c.l, c.seq, c.live, got, at, err, c.want)
		}
	}
}

// numbers holds places and counts, those at the edges and beyond them among them.
func numbers() []int {
	list := []int{math.MinInt, math.MinInt + 1, -highestSeq, 1 << 31, 1 << 32, 1<<32 + 1, math.MaxInt - 1, math.MaxInt}
	for n := -3; n <= mostSlots+2; n++ {
		list = append(list, n)
	}
	return list
}

// P14.1: Kill takes so many from a slot's Live, or refuses: no slot in use there ahead of a number out of its range.
func TestKill(t *testing.T) {
	for name, l := range rightTables() {
		for _, slot := range numbers() {
			for _, n := range numbers() {
				want := api.OK
				if slot < 0 || slot >= len(l) || l[slot].Seq == 0 {
					want = api.ErrNone
				} else if n < 0 || n > l[slot].Live {
					want = api.ErrRange
				}
				got, err := table.Kill(l, slot, n)
				if err != want || err != api.OK && len(got) != 0 {
					t.Fatalf("%s: Kill(%d, %d) = %v, %d, want %d", name, slot, n, got, err, want)
				}
				if err == api.OK && !slices.Equal(got, with(l, slot, l[slot].Seq, l[slot].Live-n)) {
					t.Fatalf("%s: Kill(%d, %d) = %v", name, slot, n, got)
				}
			}
		}
	}
}

// P14.1, P14.2: Free makes a slot free, or refuses: no slot in use there, one with a live block.
func TestFree(t *testing.T) {
	for name, l := range rightTables() {
		for _, slot := range numbers() {
			want := api.OK
			if slot < 0 || slot >= len(l) || l[slot].Seq == 0 {
				want = api.ErrNone
			} else if l[slot].Live > 0 {
				want = api.ErrLive
			}
			got, err := table.Free(l, slot)
			if err != want || err != api.OK && len(got) != 0 {
				t.Errorf("%s: Free(%d) = %v, %d, want %d", name, slot, got, err, want)
			}
			if err == api.OK && !slices.Equal(got, with(l, slot, 0, 0)) {
				t.Errorf("%s: Free(%d) = %v", name, slot, got)
			}
		}
	}
}

// P14.1: Room counts the free slots and the live blocks.
func TestRoom(t *testing.T) {
	for name, l := range rightTables() {
		free, live := 0, 0
		for _, s := range l {
			if s.Seq == 0 {
				free++
			}
			live += s.Live
		}
		if gotFree, gotLive, err := table.Room(l); err != api.OK || gotFree != free || gotLive != live {
			t.Errorf("%s: Room = %d, %d, %d, want %d, %d", name, gotFree, gotLive, err, free, live)
		}
	}
	for _, c := range []struct {
		l          []table.Slot
		free, live int
	}{
		{of([2]int{}), 1, 0},
		{of([2]int{1, 8}), 0, 8},
		{of([2]int{1, 0}), 0, 0},
		{of([2]int{9, 1}, [2]int{}, [2]int{}, [2]int{2, 8}, [2]int{}, [2]int{5, 0}), 3, 9},
		{make([]table.Slot, mostSlots), mostSlots, 0},
	} {
		if free, live, err := table.Room(c.l); err != api.OK || free != c.free || live != c.live {
			t.Errorf("Room(%v) = %d, %d, %d", c.l, free, live, err)
		}
	}
}
