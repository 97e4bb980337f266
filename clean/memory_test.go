package clean_test

import (
	"reflect"
	"runtime"
	"slices"
	"strings"
	"testing"
	"unsafe"

	"undercroft/api"
	"undercroft/clean"
	"undercroft/log"
	"undercroft/segment"
)

// held is all that was handed in or answered, and where it lies. Nothing of it is given back while it is looked at: memory that nobody holds comes back in later answers.
type held struct {
	all   []any
	spans [][2]uintptr
}

// add takes note of where a list lies, with the room behind it.
func add[T any](h *held, list []T) {
	from := uintptr(unsafe.Pointer(unsafe.SliceData(list)))
	h.all = append(h.all, list)
	h.spans = append(h.spans, [2]uintptr{from, from + uintptr(cap(list))*unsafe.Sizeof(*new(T))})
}

func (h *held) addBlocks(l []segment.Block) {
	add(h, l)
	for _, b := range l {
		add(h, b.Data)
	}
}

func (h *held) addState(s log.State) {
	add(h, s.Segs)
	for _, g := range s.Segs {
		h.addBlocks(g.Blocks)
	}
	add(h, s.Held)
	h.addBlocks(s.Open)
}

// apart tells whether no two of what is held overlap.
func (h *held) apart() bool {
	list := slices.DeleteFunc(slices.Clone(h.spans), func(s [2]uintptr) bool { return s[0] == s[1] })
	slices.SortFunc(list, func(a, b [2]uintptr) int { return slices.Compare(a[:], b[:]) })
	for i := range list {
		if i > 0 && list[i][0] < list[i-1][1] {
			return false
		}
	}
	runtime.KeepAlive(h.all)
	return true
}

// behind is l with room behind it, in which x stands.
func behind[T any](l []T, x T) []T {
	return append(slices.Clip(slices.Clone(l)), x, x, x)[:len(l)]
}

func roomyBlocks(l []segment.Block) []segment.Block {
	l = slices.Clone(l)
	for i := range l {
		l[i].Data = behind(l[i].Data, 99)
	}
	return behind(l, block(77, 7, "room"))
}

// roomy is s with room behind each of its lists, in which something stands.
func roomy(s log.State) log.State {
	s.Segs = slices.Clone(s.Segs)
	for i, g := range s.Segs {
		s.Segs[i].Blocks = roomyBlocks(g.Blocks)
	}
	s.Segs = behind(s.Segs, seg(4999, block(77, 7, "room")))
	s.Held = behind(s.Held, true)
	s.Open = roomyBlocks(s.Open)
	return s
}

func allOfBlocks(l []segment.Block) []segment.Block {
	l = slices.Clone(l[:cap(l)])
	for i, b := range l {
		l[i].Data = slices.Clone(b.Data[:cap(b.Data)])
	}
	return l
}

// allOf is s with all that stands in the room behind its lists.
func allOf(s log.State) log.State {
	s.Segs = slices.Clone(s.Segs[:cap(s.Segs)])
	for i, g := range s.Segs {
		s.Segs[i].Blocks = allOfBlocks(g.Blocks)
	}
	s.Held = slices.Clone(s.Held[:cap(s.Held)])
	s.Open = allOfBlocks(s.Open)
	return s
}

func wipeBlocks(l []segment.Block) {
	for _, b := range l {
		clear(b.Data)
	}
	clear(l)
}

// wipe writes over all that lies in s.
func wipe(s log.State) {
	for _, g := range s.Segs {
		wipeBlocks(g.Blocks)
	}
	clear(s.Segs)
	for i := range s.Held {
		s.Held[i] = !s.Held[i]
	}
	wipeBlocks(s.Open)
}

// answers is what cleanings make of s: some of them are refused.
func answers(s log.State) []log.State {
	var all []log.State
	for slot, g := range s.Segs {
		if slot > 3 && slot < len(s.Segs)-2 {
			continue
		}
		for seq := g.Seq; seq < g.Seq+2; seq++ {
			got, _ := clean.Clean(s, clean.Record{Slot: slot, Seq: seq})
			all = append(all, got)
		}
	}
	return all
}

// P16.5: what is handed in is not changed, nor the room behind it.
func TestArgumentsStay(t *testing.T) {
	for _, list := range []map[string]log.State{rightStates(), wrongStates()} {
		for name, s := range list {
			if len(s.Segs)+len(s.Open) > 2*mostSlots {
				continue
			}
			s = roomy(s)
			before := allOf(s)
			clean.Victim(s)
			clean.Room(s)
			answers(s)
			if !reflect.DeepEqual(allOf(s), before) {
				t.Errorf("%s: what was handed in has changed", name)
			}
		}
	}
}

// P16.5: answers share no memory with arguments, with each other, nor within one.
func TestAnswersApart(t *testing.T) {
	for name, s := range rightStates() {
		h := &held{}
		s := roomy(s)
		h.addState(s)
		for range 2 {
			for _, got := range answers(s) {
				h.addState(got)
			}
		}
		if !h.apart() {
			t.Fatalf("%s: an answer shares memory", name)
		}
	}
}

// P16.5: lists of one argument that share memory do not make answers that do.
func TestSharedLists(t *testing.T) {
	data := []byte(strings.Repeat("x", longest))
	blocks := []segment.Block{{Owner: 1, Data: data}, {Owner: 1, Index: 1, Data: data[3:9]}, {Owner: 2, Data: data}}
	s := of(9, seg(2, blocks...), seg(3, blocks...), seg(0), seg(0))
	for _, s := range []log.State{s, opened(s, blocks...), opened(s, blocks[1:]...)} {
		h := &held{}
		add(h, data)
		add(h, blocks)
		add(h, s.Segs)
		add(h, s.Held)
		for _, got := range answers(s) {
			h.addState(got)
		}
		if !h.apart() {
			t.Error("an answer shares memory")
		}
	}
}

// P16.5 and P3: writing over what was handed in, or over one answer, changes no other one; the same call answers the same again.
func TestAnswersStay(t *testing.T) {
	for name, s := range rightStates() {
		s = roomy(s)
		first, second, want := answers(s), answers(s), answers(roomy(s))
		wipe(s)
		for _, got := range first {
			wipe(got)
		}
		if !slices.EqualFunc(second, want, same) {
			t.Errorf("%s: an answer has changed", name)
		}
	}
}

// P1: nil and empty lists are one, and what is answered of them is alike.
func TestNilAndEmpty(t *testing.T) {
	bare := log.State{Segs: []segment.Seg{{}, {Seq: 1, Blocks: []segment.Block{{Owner: 1}, {Owner: 1}}}}, Held: make([]bool, 2), Next: 2}
	empty := log.State{Segs: []segment.Seg{{Blocks: []segment.Block{}}, {Seq: 1, Blocks: []segment.Block{{Owner: 1, Data: []byte{}}, {Owner: 1, Data: []byte{}}}}}, Held: make([]bool, 2), Open: []segment.Block{}, Next: 2}
	if first, second := answers(bare), answers(empty); !reflect.DeepEqual(first, second) {
		t.Errorf("%v is not %v", first, second)
	}
	for _, s := range []log.State{bare, empty} {
		if r, err := clean.Victim(s); r != (clean.Record{Slot: 1, Seq: 1}) || err != api.OK {
			t.Errorf("Victim = %v, %d", r, err)
		}
		if n, err := clean.Room(s); n != 1 || err != api.OK {
			t.Errorf("Room = %d, %d", n, err)
		}
	}
}
