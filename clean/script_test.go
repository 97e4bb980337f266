package clean_test

import (
	"bytes"
	"math/rand"
	"slices"
	"strings"
	"testing"

	"undercroft/api"
	"undercroft/clean"
	"undercroft/log"
	"undercroft/segment"
)

// P16.1, P16.2: the chapter's example, and a log that is cleaned by its victims till nothing is won any more.
func TestExample(t *testing.T) {
	if n, err := clean.Score(1, 2, 9); n != 307 || err != api.OK {
		t.Fatal("Score:", n, err)
	}
	s := of(4, seg(1, block(1, 0, "a"), block(9, 0, "b")), seg(2, block(2, 0, "a"), block(9, 0, "c")), seg(3, block(9, 0, "")), seg(0))
	for i, want := range []log.State{
		of(5, seg(0), seg(2, block(2, 0, "a"), block(9, 0, "c")), seg(3, block(9, 0, "")), seg(4, block(1, 0, "a"))),
		of(6, seg(5, block(2, 0, "a")), seg(0), seg(3, block(9, 0, "")), seg(4, block(1, 0, "a"))),
		of(6, seg(5, block(2, 0, "a")), seg(0), seg(0), seg(4, block(1, 0, "a"))),
	} {
		r, err := clean.Victim(s)
		if err != api.OK {
			t.Fatal("Victim:", err)
		}
		if s, err = clean.Clean(s, r); err != api.OK || !same(s, want) {
			t.Fatalf("cleaning %d: %v, %d", i, s, err)
		}
	}
}

// world is logs that all have the same done to them, and what was put last of each block.
type world struct {
	t      *testing.T
	chance *rand.Rand
	logs   []log.State
	last   map[[2]int]string
	met    map[api.Errno]int
}

// owners and indexes tell of how many owners the scripts put blocks, and how many each has.
const (
	owners  = 5
	indexes = 4
)

// do does the same to all logs, and holds what it tells of each to what it tells of the first.
func (w *world) do(step func(s log.State) (log.State, api.Errno)) api.Errno {
	w.t.Helper()
	first, want := step(w.logs[0])
	w.met[want]++
	for i, s := range w.logs {
		next, err := step(s)
		if err != want || !same(next, first) {
			w.t.Fatalf("log %d: %v, %d, want %v, %d", i, next, err, first, want)
		}
		if err == api.OK {
			w.logs[i] = next
		}
	}
	return want
}

func seal(s log.State) (log.State, api.Errno) {
	s, _, err := log.Seal(s)
	return s, err
}

// put writes a block, and seals ahead of that if no more may be open.
func (w *world) put(b segment.Block) {
	if len(w.logs[0].Open) == mostBlocks && w.do(seal) != api.OK {
		return
	}
	if err := w.do(func(s log.State) (log.State, api.Errno) { return log.Put(s, b) }); err == api.OK {
		w.last[[2]int{b.Owner, b.Index}] = string(b.Data)
	}
}

// clean lets the first log tell what is cleaned, and cleans all of them by that record.
func (w *world) clean() {
	r, err := clean.Victim(w.logs[0])
	w.met[err]++
	if err == api.OK {
		w.do(func(s log.State) (log.State, api.Errno) { return clean.Clean(s, r) })
	}
}

// cleanAny cleans by a record that no call has told.
func (w *world) cleanAny() {
	s := w.logs[0]
	r := clean.Record{Slot: w.chance.Intn(len(s.Segs)+2) - 1, Seq: 1 + w.chance.Intn(s.Next)}
	if w.chance.Intn(3) > 0 && r.Slot >= 0 && r.Slot < len(s.Segs) {
		r.Seq = s.Segs[r.Slot].Seq
	}
	w.do(func(s log.State) (log.State, api.Errno) { return clean.Clean(s, r) })
}

// holdSlot makes a slot held, or lets it go.
func (w *world) holdSlot() {
	slot, held := w.chance.Intn(len(w.logs[0].Held)), w.chance.Intn(4) == 0
	for _, s := range w.logs {
		s.Held[slot] = held
	}
}

func (w *world) step() {
	owner, index := 1+w.chance.Intn(owners), w.chance.Intn(indexes)
	switch w.chance.Intn(10) {
	case 0, 1, 2, 3:
		w.put(block(owner, index, strings.Repeat("s", w.chance.Intn(longest+1))))
	case 4:
		w.put(block(owner, index, ""))
	case 5:
		w.do(seal)
	case 6, 7:
		w.clean()
	case 8:
		w.cleanAny()
	default:
		w.holdSlot()
	}
}

// look holds what is got to what was put last, and the logs to each other, octet by octet.
func (w *world) look() {
	w.t.Helper()
	for _, s := range w.logs {
		var there []segment.Block
		for owner := range owners + 1 {
			for index := range indexes {
				if data := w.last[[2]int{owner, index}]; data != "" {
					there = append(there, block(owner, index, data))
				}
			}
		}
		if all, err := log.All(s); err != api.OK || !sameBlocks(all, there) {
			w.t.Fatalf("%v: All = %v, %d, want %v", s, all, err, there)
		}
		if !slices.EqualFunc(octets(s), octets(w.logs[0]), bytes.Equal) {
			w.t.Fatalf("%v is not %v", s, w.logs[0])
		}
	}
}

// octets is what a disk would have of each slot.
func octets(s log.State) [][]byte {
	var list [][]byte
	for _, g := range s.Segs {
		b, _ := segment.Seal(g)
		list = append(list, b)
	}
	return list
}

// P16.3, P16.4: by scripts of puts, seals and cleanings what is got is what was put last, and logs that are cleaned by the same records stay alike, however they lie in memory.
func TestScripts(t *testing.T) {
	chance := rand.New(rand.NewSource(161616))
	met := map[api.Errno]int{}
	for range 60 {
		slots := 1 + chance.Intn(12)
		if chance.Intn(20) == 0 {
			slots = mostSlots
		}
		s, err := log.New(slots)
		if err != api.OK {
			t.Fatal(err)
		}
		w := &world{t, chance, []log.State{s, roomy(s)}, map[[2]int]string{}, met}
		for range 120 {
			w.logs[1] = roomy(w.logs[1])
			w.step()
			w.look()
		}
		hold(t, "behind a script", w.logs[0], met)
	}
	for _, err := range []api.Errno{api.OK, api.ErrFull, api.ErrNone, api.ErrOrder} {
		if met[err] < 100 {
			t.Errorf("the scripts met %d only %d times", err, met[err])
		}
	}
}

// P16.1 to P16.3: a log that is far smaller than all that is put goes on for ever, if it has more slots than there are kinds of blocks, so that they are not all needed.
func TestGoesOn(t *testing.T) {
	for _, slots := range []int{owners*indexes + 4, 40, mostSlots} {
		s, _ := log.New(slots)
		w := &world{t, rand.New(rand.NewSource(int64(slots))), []log.State{s}, map[[2]int]string{}, map[api.Errno]int{}}
		for range 3000 {
			w.makeRoom()
			w.put(block(1+w.chance.Intn(owners), w.chance.Intn(indexes), strings.Repeat("g", w.chance.Intn(4))))
		}
		w.look()
		if next := w.logs[0].Next; next < 3000/mostBlocks {
			t.Errorf("%d slots: only %d segments were sealed", slots, next)
		}
	}
}

// makeRoom cleans till two slots are free: they take what is open, and what is moved.
func (w *world) makeRoom() {
	w.t.Helper()
	for range 2 * mostSlots {
		if n, err := clean.Room(w.logs[0]); n >= 2 || err != api.OK {
			return
		}
		w.clean()
	}
	w.t.Fatalf("no room is won: %v", w.logs[0])
}

// P16.2: a cleaning wins one slot, and takes as many as it seals.
func TestRoomWon(t *testing.T) {
	for name, s := range rightStates() {
		before, _ := clean.Room(s)
		for slot, g := range s.Segs {
			got, err := clean.Clean(s, clean.Record{Slot: slot, Seq: g.Seq})
			if err != api.OK {
				continue
			}
			want := before - (got.Next - s.Next)
			if !s.Held[slot] {
				want++
			}
			if n, err := clean.Room(got); n != want || err != api.OK {
				t.Errorf("%s: Room behind a cleaning of %d = %d, %d, want %d", name, slot, n, err, want)
			}
		}
	}
}
