package log_test

import (
	"math/rand"
	"strings"
	"testing"

	"undercroft/api"
	"undercroft/log"
	"undercroft/segment"
)

// Of how many owners the scripts put blocks, and how many each has.
const (
	owners  = 5
	indexes = 4
)

// P15.2: the chapter's example.
func TestExample(t *testing.T) {
	s, err := log.New(3)
	if err != api.OK {
		t.Fatal(err)
	}
	for slot, data := range []string{"a", "b"} {
		if s, err = log.Put(s, block(1, 0, data)); err != api.OK {
			t.Fatal("Put:", err)
		}
		var at int
		if s, at, err = log.Seal(s); at != slot || err != api.OK {
			t.Fatal("Seal:", at, err)
		}
	}
	if l, err := log.Live(s, 0); len(l) != 0 || err != api.OK {
		t.Error("Live:", l, err)
	}
	if s, err = log.Free(s, 0); err != api.OK {
		t.Fatal("Free:", err)
	}
	if !same(s, of(3, seg(0), seg(2, block(1, 0, "b")), seg(0))) {
		t.Error(s)
	}
	if data, ok, err := log.Get(s, 1, 0); string(data) != "b" || !ok || err != api.OK {
		t.Error("Get:", data, ok, err)
	}
}

// P15.2: what says that a block is gone is needed until all that it hides is freed, and then it may be freed itself.
func TestGoneInTheEnd(t *testing.T) {
	s := of(4, seg(1, block(1, 0, "a")), seg(2, block(1, 0, "b")), seg(3, block(1, 0, "")))
	for _, slot := range []int{1, 0} {
		if _, err := log.Free(s, 2); err != api.ErrLive {
			t.Fatal("it hides another one:", err)
		}
		var err api.Errno
		if s, err = log.Free(s, slot); err != api.OK {
			t.Fatalf("Free(%d) = %d", slot, err)
		}
		if _, ok, _ := log.Get(s, 1, 0); ok {
			t.Fatal("it came back")
		}
	}
	s, err := log.Free(s, 2)
	if err != api.OK || !same(s, of(4, seg(0), seg(0), seg(0))) {
		t.Fatal(s, err)
	}
	if _, err := log.Free(s, 2); err != api.ErrNone {
		t.Error("Free again:", err)
	}
}

// script plays calls on a log, beside what was put last of each block; that knows nothing of segments.
type script struct {
	t      *testing.T
	chance *rand.Rand
	s      log.State
	last   map[[2]int]string
	done   map[api.Errno]int
}

// take takes the state that a call answered, if it was not refused.
func (p *script) take(next log.State, err api.Errno) bool {
	p.done[err]++
	if err == api.OK {
		p.s = next
	} else if !none(next) {
		p.t.Fatalf("a state beside %d: %v", err, next)
	}
	return err == api.OK
}

func (p *script) seal() bool {
	next, _, err := log.Seal(p.s)
	return p.take(next, err)
}

func (p *script) put(b segment.Block) {
	next, err := log.Put(p.s, b)
	if err == api.ErrFull && p.seal() {
		next, err = log.Put(p.s, b)
	}
	if p.take(next, err) {
		p.last[[2]int{b.Owner, b.Index}] = string(b.Data)
	}
}

// clean moves what is live in a slot, and makes it free.
func (p *script) clean(slot int) {
	blocks, err := log.Live(p.s, slot)
	p.done[err]++
	for _, b := range blocks {
		p.put(b)
	}
	p.take(log.Free(p.s, slot))
}

func (p *script) step() {
	slot := p.chance.Intn(len(p.s.Segs)+2) - 1
	switch p.chance.Intn(12) {
	case 0, 1, 2, 3:
		p.put(block(1+p.chance.Intn(owners), p.chance.Intn(indexes), strings.Repeat("s", p.chance.Intn(longest+1))))
	case 4, 5:
		p.put(block(1+p.chance.Intn(owners), p.chance.Intn(indexes), ""))
	case 6, 7:
		p.seal()
	case 8, 9:
		p.take(log.Free(p.s, slot))
	case 10:
		p.clean(slot)
	default:
		p.s.Held[p.chance.Intn(len(p.s.Held))] = p.chance.Intn(3) == 0
	}
}

// look holds what is got against what was put last.
func (p *script) look() {
	if err := log.Check(p.s); err != api.OK {
		p.t.Fatalf("%v: Check = %d", p.s, err)
	}
	var there []segment.Block
	for owner := range owners + 2 {
		for index := range indexes + 1 {
			want := p.last[[2]int{owner, index}]
			if data, ok, err := log.Get(p.s, owner, index); string(data) != want || ok != (want != "") || err != api.OK {
				p.t.Fatalf("%v: Get(%d, %d) = %q, %v, %d, want %q", p.s, owner, index, data, ok, err, want)
			}
			if want != "" {
				there = append(there, block(owner, index, want))
			}
		}
	}
	if all, err := log.All(p.s); err != api.OK || !sameBlocks(all, there) {
		p.t.Fatalf("%v: All = %v, %d, want %v", p.s, all, err, there)
	}
}

// P15.3: what is got is what was put last, whatever was sealed, freed and moved.
func TestScripts(t *testing.T) {
	chance := rand.New(rand.NewSource(151515))
	done := map[api.Errno]int{}
	for range 60 {
		slots := 1 + chance.Intn(12)
		if chance.Intn(20) == 0 {
			slots = mostSlots
		}
		s, err := log.New(slots)
		if err != api.OK {
			t.Fatal(err)
		}
		p := &script{t, chance, s, map[[2]int]string{}, done}
		for range 120 {
			p.step()
			p.look()
		}
		hold(t, "behind a script", p.s)
	}
	for _, err := range []api.Errno{api.OK, api.ErrFull, api.ErrNone, api.ErrLive} {
		if done[err] < 100 {
			t.Errorf("the scripts met %d only %d times", err, done[err])
		}
	}
}

// P15.2: every slot of the longest store is given once, in their order; freed ones are given again, the lowest first; numbers are never given again.
func TestEachSlotOnce(t *testing.T) {
	s, err := log.New(mostSlots)
	fill := func(slot int, b segment.Block) {
		t.Helper()
		next := s.Next
		if s, err = log.Put(s, b); err != api.OK {
			t.Fatal(err)
		}
		var at int
		if s, at, err = log.Seal(s); at != slot || err != api.OK || s.Segs[slot].Seq != next || s.Next != next+1 {
			t.Fatalf("slot %d: %d, %d", slot, at, err)
		}
	}
	// What is in even slots may be freed at once: it says of a block that was never there that it is gone.
	for slot := range mostSlots {
		fill(slot, block(1+slot, 0, strings.Repeat("x", slot%2)))
	}
	full, _ := log.Put(s, block(1, 0, "full"))
	if _, _, err := log.Seal(full); err != api.ErrFull {
		t.Fatal(err)
	}
	for slot := mostSlots - 2; slot >= 0; slot -= 2 {
		if _, err := log.Free(s, slot+1); err != api.ErrLive {
			t.Fatalf("Free(%d) = %d", slot+1, err)
		}
		if s, err = log.Free(s, slot); err != api.OK {
			t.Fatalf("Free(%d) = %d", slot, err)
		}
	}
	for slot := 0; slot < mostSlots; slot += 2 {
		fill(slot, block(1+slot, 1, "x"))
	}
	if s.Next != mostSlots+mostSlots/2+1 {
		t.Error(s.Next)
	}
}
