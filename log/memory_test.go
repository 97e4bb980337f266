package log_test

import (
	"bytes"
	"reflect"
	"runtime"
	"slices"
	"strings"
	"testing"
	"unsafe"

	"undercroft/api"
	"undercroft/log"
	"undercroft/segment"
)

// held is all that was handed in or answered, and where it lies. Nothing of it is given back while it is looked at: memory that nobody holds comes back in later answers.
type held struct {
	all   []any
	spans [][2]uintptr
}

// add takes note of where a list lies, with the room behind it.
func add[T any](h *held, list []T) {
	from := uintptr(unsafe.Pointer(unsafe.SliceData(list)))
	h.all = append(h.all, list)
	h.spans = append(h.spans, [2]uintptr{from, from + uintptr(cap(list))*unsafe.Sizeof(*new(T))})
}

func (h *held) addBlocks(l []segment.Block) {
	add(h, l)
	for _, b := range l {
		add(h, b.Data)
	}
}

func (h *held) addState(s log.State) {
	add(h, s.Segs)
	for _, g := range s.Segs {
		h.addBlocks(g.Blocks)
	}
	add(h, s.Held)
	h.addBlocks(s.Open)
}

// apart tells whether no two of what is held overlap.
func (h *held) apart() bool {
	list := slices.DeleteFunc(slices.Clone(h.spans), func(s [2]uintptr) bool { return s[0] == s[1] })
	slices.SortFunc(list, func(a, b [2]uintptr) int { return slices.Compare(a[:], b[:]) })
	for i := range list {
		if i > 0 && list[i][0] < list[i-1][1] {
			return false
		}
	}
	runtime.KeepAlive(h.all)
	return true
}

// behind is l with room behind it, in which x stands.
func behind[T any](l []T, x T) []T {
	return append(slices.Clip(slices.Clone(l)), x, x, x)[:len(l)]
}

func roomyBlocks(l []segment.Block) []segment.Block {
	l = slices.Clone(l)
	for i := range l {
		l[i].Data = behind(l[i].Data, 99)
	}
	return behind(l, block(77, 7, "room"))
}

// roomy is s with room behind each of its lists, in which something stands.
func roomy(s log.State) log.State {
	s.Segs = slices.Clone(s.Segs)
	for i, g := range s.Segs {
		s.Segs[i].Blocks = roomyBlocks(g.Blocks)
	}
	s.Segs = behind(s.Segs, seg(4999, block(77, 7, "room")))
	s.Held = behind(s.Held, true)
	s.Open = roomyBlocks(s.Open)
	return s
}

func roomOfBlocks(l []segment.Block) []segment.Block {
	l = slices.Clone(l[:cap(l)])
	for i, b := range l {
		l[i].Data = slices.Clone(b.Data[:cap(b.Data)])
	}
	return l
}

// room is s with all that stands in the room behind its lists.
func room(s log.State) log.State {
	s.Segs = slices.Clone(s.Segs[:cap(s.Segs)])
	for i, g := range s.Segs {
		s.Segs[i].Blocks = roomOfBlocks(g.Blocks)
	}
	s.Held = slices.Clone(s.Held[:cap(s.Held)])
	s.Open = roomOfBlocks(s.Open)
	return s
}

// wipe writes over all that lies in s.
func wipe(s log.State) {
	for _, g := range s.Segs {
		wipeBlocks(g.Blocks)
	}
	clear(s.Segs)
	for i := range s.Held {
		s.Held[i] = !s.Held[i]
	}
	wipeBlocks(s.Open)
}

func wipeBlocks(l []segment.Block) {
	for _, b := range l {
		clear(b.Data)
	}
	clear(l)
}

// answers is what calls made of a state.
type answers struct {
	states []log.State
	lists  [][]segment.Block
	data   [][]byte
}

// made is what all calls make of s and b: some of them are refused.
func made(s log.State, b segment.Block) answers {
	var a answers
	put, _ := log.Put(s, b)
	sealed, _, _ := log.Seal(s)
	a.states = append(a.states, put, sealed)
	all, _ := log.All(s)
	a.lists = append(a.lists, all)
	for slot := range len(s.Segs) + 1 {
		freed, _ := log.Free(s, slot)
		list, _ := log.Live(s, slot)
		a.states, a.lists = append(a.states, freed), append(a.lists, list)
	}
	for _, c := range append(slices.Clone(s.Open), block(1, 0, ""), block(2, 0, "")) {
		data, _, _ := log.Get(s, c.Owner, c.Index)
		a.data = append(a.data, data)
	}
	return a
}

// add takes note of where all answers lie.
func (a answers) add(h *held) {
	for _, s := range a.states {
		h.addState(s)
	}
	for _, l := range a.lists {
		h.addBlocks(l)
	}
	for _, b := range a.data {
		add(h, b)
	}
}

// wipe writes over all answers.
func (a answers) wipe() {
	for _, s := range a.states {
		wipe(s)
	}
	for _, l := range a.lists {
		wipeBlocks(l)
	}
	for _, b := range a.data {
		clear(b)
	}
}

func (a answers) same(b answers) bool {
	return slices.EqualFunc(a.states, b.states, same) && slices.EqualFunc(a.lists, b.lists, sameBlocks) && slices.EqualFunc(a.data, b.data, bytes.Equal)
}

// P15.4: what is handed in is not changed, nor the room behind it.
func TestArgumentsStay(t *testing.T) {
	for _, list := range []map[string]log.State{rightStates(), wrongStates()} {
		for name, s := range list {
			s = roomy(s)
			b := block(3, 3, "put")
			b.Data = behind(b.Data, 99)
			before, beforeData := room(s), slices.Clone(b.Data[:cap(b.Data)])
			log.Check(s)
			made(s, b)
			if !reflect.DeepEqual(room(s), before) || !bytes.Equal(b.Data[:cap(b.Data)], beforeData) {
				t.Errorf("%s: what was handed in has changed", name)
			}
		}
	}
}

// P15.4: answers share no memory with arguments, with each other, nor within one.
func TestAnswersApart(t *testing.T) {
	for name, s := range rightStates() {
		h := &held{}
		s := roomy(s)
		b := block(3, 3, "put")
		b.Data = behind(b.Data, 99)
		h.addState(s)
		add(h, b.Data)
		for range 2 {
			fresh, _ := log.New(len(s.Segs))
			h.addState(fresh)
			made(s, b).add(h)
		}
		if !h.apart() {
			t.Fatalf("%s: an answer shares memory", name)
		}
	}
}

// P15.4: lists of one argument that share memory do not make answers that do.
func TestSharedLists(t *testing.T) {
	data := []byte(strings.Repeat("x", longest))
	blocks := []segment.Block{{Owner: 1, Data: data}, {Owner: 1, Index: 1, Data: data[3:9]}, {Owner: 2, Data: data}}
	s := opened(of(9, seg(2, blocks...), seg(3, blocks...), seg(0)), blocks...)
	for _, s := range []log.State{s, opened(s), opened(s, blocks[1:]...)} {
		h := &held{}
		made(s, blocks[0]).add(h)
		if !h.apart() {
			t.Error("answers share memory")
		}
		h = &held{}
		add(h, data)
		add(h, blocks)
		add(h, s.Segs)
		add(h, s.Held)
		made(s, blocks[0]).add(h)
		if !h.apart() {
			t.Error("an answer shares memory with an argument")
		}
	}
}

// P15.4 and P3: writing over what was handed in, or over one answer, changes no other one; the same call answers the same again.
func TestAnswersStay(t *testing.T) {
	for name, s := range rightStates() {
		s, b := roomy(s), block(3, 3, "put")
		first, second := made(s, b), made(s, b)
		want := made(roomy(s), block(3, 3, "put"))
		wipe(s)
		clear(b.Data)
		first.wipe()
		if !second.same(want) {
			t.Errorf("%s: an answer has changed", name)
		}
	}
	first, _ := log.New(4)
	first.Segs[0], first.Held[1] = seg(1, block(1, 0, "x")), true
	if second, err := log.New(4); err != api.OK || !same(second, of(1, make([]segment.Seg, 4)...)) {
		t.Error("New keeps what it answered")
	}
}

// P1: nil and empty lists are one, and what is answered of them is alike.
func TestNilAndEmpty(t *testing.T) {
	bare := log.State{Segs: []segment.Seg{{}, {Seq: 1, Blocks: []segment.Block{{Owner: 1}}}}, Held: make([]bool, 2), Next: 2}
	empty := log.State{Segs: []segment.Seg{{Blocks: []segment.Block{}}, {Seq: 1, Blocks: []segment.Block{{Owner: 1, Data: []byte{}}}}}, Held: make([]bool, 2), Open: []segment.Block{}, Next: 2}
	if log.Check(bare) != api.OK || log.Check(empty) != api.OK {
		t.Fatal("Check refuses them")
	}
	first, second := made(bare, segment.Block{Owner: 2}), made(empty, segment.Block{Owner: 2, Data: []byte{}})
	if !reflect.DeepEqual(first, second) {
		t.Errorf("%v is not %v", first, second)
	}
	for _, s := range []log.State{{Next: 1}, {Segs: []segment.Seg{}, Held: []bool{}, Open: []segment.Block{}, Next: 1}} {
		if err := log.Check(s); err != api.ErrState {
			t.Errorf("%d of no slots", err)
		}
	}
}
