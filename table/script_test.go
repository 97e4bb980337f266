package table_test

import (
	"math/rand"
	"slices"
	"testing"

	"undercroft/api"
	"undercroft/table"
)

// P14.1: the chapter's example.
func TestExample(t *testing.T) {
	l, err := table.New(2)
	if err != api.OK {
		t.Fatal(err)
	}
	alloc := func(seq, live, place int, want api.Errno) {
		t.Helper()
		next, at, err := table.Alloc(l, seq, live)
		if at != place || err != want {
			t.Fatalf("Alloc(%d, %d) = %d, %d, want %d, %d", seq, live, at, err, place, want)
		}
		if err == api.OK {
			l = next
		}
	}
	alloc(1, 3, 0, api.OK)
	alloc(2, 1, 1, api.OK)
	alloc(3, 1, 0, api.ErrFull)
	if _, err := table.Free(l, 0); err != api.ErrLive {
		t.Fatal("Free ahead of Kill:", err)
	}
	if l, err = table.Kill(l, 0, 3); err != api.OK {
		t.Fatal("Kill:", err)
	}
	if l, err = table.Free(l, 0); err != api.OK {
		t.Fatal("Free:", err)
	}
	alloc(3, 1, 0, api.OK)
	if !slices.Equal(l, of([2]int{3, 1}, [2]int{2, 1})) {
		t.Error(l)
	}
}

// segment is what a model keeps of one that a table holds.
type segment struct{ slot, live int }

// model holds the segments that are in use, by their numbers, and knows nothing of a table but how long it is.
type model struct {
	slots int
	held  map[int]segment
}

func (m *model) at(slot int) (int, bool) {
	for seq, s := range m.held {
		if s.slot == slot {
			return seq, true
		}
	}
	return 0, false
}

func (m *model) alloc(seq, live int) (int, api.Errno) {
	if seq < 1 || seq > highestSeq || live < 0 || live > mostLive {
		return 0, api.ErrRange
	}
	if _, twice := m.held[seq]; twice {
		return 0, api.ErrTwice
	}
	for slot := range m.slots {
		if _, used := m.at(slot); !used {
			m.held[seq] = segment{slot, live}
			return slot, api.OK
		}
	}
	return 0, api.ErrFull
}

func (m *model) kill(slot, n int) api.Errno {
	seq, used := m.at(slot)
	if !used {
		return api.ErrNone
	}
	live := m.held[seq].live
	if n < 0 || n > live {
		return api.ErrRange
	}
	m.held[seq] = segment{slot, live - n}
	return api.OK
}

func (m *model) free(slot int) api.Errno {
	seq, used := m.at(slot)
	if !used {
		return api.ErrNone
	}
	if m.held[seq].live > 0 {
		return api.ErrLive
	}
	delete(m.held, seq)
	return api.OK
}

// same tells whether a table is what the model holds.
func (m *model) same(l []table.Slot) bool {
	want := make([]table.Slot, m.slots)
	for seq, s := range m.held {
		want[s.slot] = table.Slot{Seq: seq, Live: s.live}
	}
	return slices.Equal(l, want)
}

// room is how many slots are free, and how many blocks are live.
func (m *model) room() (int, int) {
	live := 0
	for _, s := range m.held {
		live += s.live
	}
	return m.slots - len(m.held), live
}

// P14.1, P14.2: calls by chance, beside a model in which a slot is never given twice and none with a live block is freed; a refused call leaves all as it was.
func TestScripts(t *testing.T) {
	chance := rand.New(rand.NewSource(1414))
	done := map[api.Errno]int{}
	for range 300 {
		slots := 1 + chance.Intn(12)
		if chance.Intn(20) == 0 {
			slots = mostSlots
		}
		l, err := table.New(slots)
		if err != api.OK {
			t.Fatal(err)
		}
		m := &model{slots, map[int]segment{}}
		for range 200 {
			var next []table.Slot
			var want api.Errno
			slot := chance.Intn(slots+2) - 1
			switch chance.Intn(4) {
			case 0, 1:
				seq, live := chance.Intn(3*slots)+chance.Intn(20)/19*highestSeq, chance.Intn(mostLive+3)-1
				var at, wantAt int
				next, at, err = table.Alloc(l, seq, live)
				if wantAt, want = m.alloc(seq, live); at != wantAt {
					t.Fatalf("Alloc(%v, %d, %d) = %d, want %d", l, seq, live, at, wantAt)
				}
			case 2:
				n := chance.Intn(mostLive+2) - 1
				next, err = table.Kill(l, slot, n)
				want = m.kill(slot, n)
			default:
				next, err = table.Free(l, slot)
				want = m.free(slot)
			}
			if done[err]++; err != want {
				t.Fatalf("%v: %d, want %d", l, err, want)
			}
			if err == api.OK {
				l = next
			}
			free, live, roomErr := table.Room(l)
			wantFree, wantLive := m.room()
			if !m.same(l) || free != wantFree || live != wantLive || roomErr != api.OK {
				t.Fatalf("%v, with room %d, %d, %d, is not %v", l, free, live, roomErr, m)
			}
		}
	}
	for _, err := range []api.Errno{api.OK, api.ErrRange, api.ErrTwice, api.ErrFull, api.ErrNone, api.ErrLive} {
		if done[err] < 100 {
			t.Errorf("the scripts met %d only %d times", err, done[err])
		}
	}
}

// P14.2: every slot of the longest table is given once, in their order; freed ones are given again, the lowest first.
func TestEachSlotOnce(t *testing.T) {
	l, _ := table.New(mostSlots)
	var at int
	var err api.Errno
	for i := range mostSlots {
		if l, at, err = table.Alloc(l, highestSeq-i, i%2); at != i || err != api.OK {
			t.Fatalf("slot %d: %d, %d", i, at, err)
		}
	}
	if _, _, err := table.Alloc(l, 1, 0); err != api.ErrFull {
		t.Fatal(err)
	}
	for i := mostSlots - 2; i >= 0; i -= 2 {
		if l, err = table.Free(l, i); err != api.OK {
			t.Fatalf("Free(%d) = %d", i, err)
		}
		if _, err := table.Free(l, i); err != api.ErrNone {
			t.Fatalf("Free(%d) again = %d", i, err)
		}
	}
	// The number of a slot that was freed may be given again.
	for i := 0; i < mostSlots; i += 2 {
		if l, at, err = table.Alloc(l, highestSeq-i, 1); at != i || err != api.OK {
			t.Fatalf("slot %d again: %d, %d", i, at, err)
		}
	}
	if free, live, err := table.Room(l); free != 0 || live != mostSlots || err != api.OK {
		t.Error(free, live, err)
	}
}
