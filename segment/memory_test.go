package segment_test

import (
	"bytes"
	"reflect"
	"runtime"
	"slices"
	"strings"
	"testing"
	"unsafe"

	"undercroft/api"
	"undercroft/segment"
)

// held is all that was handed in or answered, and where it lies. Nothing of it is given back while it is looked at: memory that nobody holds comes back in later answers.
type held struct {
	all   []any
	spans [][2]uintptr
}

// add takes note of where a list lies, with the room behind it.
func add[T any](h *held, list []T) {
	from := uintptr(unsafe.Pointer(unsafe.SliceData(list)))
	h.all = append(h.all, list)
	h.spans = append(h.spans, [2]uintptr{from, from + uintptr(cap(list))*unsafe.Sizeof(*new(T))})
}

func (h *held) addSeg(s segment.Seg) {
	add(h, s.Blocks)
	for _, b := range s.Blocks {
		add(h, b.Data)
	}
}

// apart tells whether no two of what is held overlap.
func (h *held) apart() bool {
	list := slices.DeleteFunc(slices.Clone(h.spans), func(s [2]uintptr) bool { return s[0] == s[1] })
	slices.SortFunc(list, func(a, b [2]uintptr) int { return slices.Compare(a[:], b[:]) })
	for i := range list {
		if i > 0 && list[i][0] < list[i-1][1] {
			return false
		}
	}
	runtime.KeepAlive(h.all)
	return true
}

// behind is l with room behind it, in which x stands.
func behind[T any](l []T, x T) []T {
	return append(slices.Clip(slices.Clone(l)), x, x, x)[:len(l)]
}

// roomy is s with room behind each of its lists, in which something stands.
func roomy(s segment.Seg) segment.Seg {
	s = copied(s)
	for i := range s.Blocks {
		s.Blocks[i].Data = behind(s.Blocks[i].Data, 99)
	}
	s.Blocks = behind(s.Blocks, block(77, 7, "room"))
	return s
}

// room is s with all that stands in the room behind its lists.
func room(s segment.Seg) segment.Seg {
	s.Blocks = slices.Clone(s.Blocks[:cap(s.Blocks)])
	for i := range s.Blocks {
		data := s.Blocks[i].Data
		s.Blocks[i].Data = slices.Clone(data[:cap(data)])
	}
	return s
}

// P13.5: what is handed in is not changed, nor the room behind it.
func TestArgumentsStay(t *testing.T) {
	for _, list := range []map[string]segment.Seg{rightSegs(), wrongSegs()} {
		for name, s := range list {
			s = roomy(s)
			before := room(s)
			segment.Check(s)
			segment.Seal(s)
			segment.Owners(s)
			if !reflect.DeepEqual(room(s), before) {
				t.Errorf("%s: the segment has changed", name)
			}
		}
	}
	octets := [][]byte{nil, make([]byte, whole), form(made(3, mostBlocks, longest)), form(made(3, 2, 1))[:whole-1]}
	for _, c := range misfits() {
		octets = append(octets, c.octets)
	}
	for _, b := range octets {
		b = behind(b, 99)
		before := slices.Clone(b[:cap(b)])
		segment.Open(b)
		if !bytes.Equal(b[:cap(b)], before) {
			t.Errorf("the octets %x have changed", b)
		}
	}
}

// P13.5: answers share no memory with arguments, with each other, nor within one.
func TestAnswersApart(t *testing.T) {
	h := &held{}
	for name, s := range rightSegs() {
		s, b := roomy(s), behind(form(s), 99)
		h.addSeg(s)
		add(h, b)
		for range 2 {
			sealed, _ := segment.Seal(s)
			add(h, sealed)
			opened, _ := segment.Open(b)
			h.addSeg(opened)
			owners, _ := segment.Owners(s)
			add(h, owners)
		}
		if !h.apart() {
			t.Fatalf("%s: an answer shares memory", name)
		}
	}
}

// P13.5: blocks of one argument that share their data do not make answers that do.
func TestSharedData(t *testing.T) {
	data := []byte(strings.Repeat("x", longest))
	s := of(segment.Block{Owner: 2, Data: data}, segment.Block{Owner: 1, Index: 1, Data: data}, segment.Block{Owner: 2, Index: 2, Data: data[3:9]})
	h := &held{}
	add(h, data)
	add(h, s.Blocks)
	b, err := segment.Seal(s)
	add(h, b)
	got, openErr := segment.Open(b)
	h.addSeg(got)
	if err != api.OK || openErr != api.OK || !same(got, s) {
		t.Fatal(err, openErr)
	}
	if !h.apart() {
		t.Error("an answer shares memory")
	}
}

// P13.5 and P3: writing over what was handed in, or over one answer, changes no other one; the same call answers the same again.
func TestAnswersStay(t *testing.T) {
	for name, want := range rightSegs() {
		s, b := copied(want), form(want)
		firstSealed, _ := segment.Seal(s)
		secondSealed, _ := segment.Seal(s)
		firstOpened, _ := segment.Open(b)
		secondOpened, _ := segment.Open(b)
		firstOwners, _ := segment.Owners(s)
		secondOwners, _ := segment.Owners(s)
		before := slices.Clone(firstOwners)
		for _, one := range []segment.Seg{s, firstOpened} {
			for i := range one.Blocks {
				clear(one.Blocks[i].Data)
			}
			clear(one.Blocks)
		}
		clear(b)
		clear(firstSealed)
		clear(firstOwners)
		if !bytes.Equal(secondSealed, form(want)) || !same(secondOpened, want) || !slices.Equal(secondOwners, before) {
			t.Errorf("%s: an answer has changed", name)
		}
	}
}

// P1: nil and empty lists are one.
func TestNilAndEmpty(t *testing.T) {
	bare, empty := of(segment.Block{Owner: 4}), of(segment.Block{Owner: 4, Data: []byte{}})
	first, err := segment.Seal(bare)
	second, emptyErr := segment.Seal(empty)
	if err != api.OK || emptyErr != api.OK || !bytes.Equal(first, second) {
		t.Error("Seal tells them apart")
	}
	for _, blocks := range [][]segment.Block{nil, {}} {
		if err := segment.Check(segment.Seg{Seq: 1, Blocks: blocks}); err != api.ErrState {
			t.Errorf("Check of no blocks = %d", err)
		}
	}
}
