package image_test

import (
	"reflect"
	"runtime"
	"slices"
	"strings"
	"testing"
	"unsafe"

	"undercroft/api"
	"undercroft/dir"
	"undercroft/file"
	"undercroft/fs"
	"undercroft/image"
)

// clones is l in memory of its own.
func clones(l [][]byte) [][]byte {
	var out [][]byte
	for _, b := range l {
		out = append(out, slices.Clone(b))
	}
	return out
}

// held is all that was handed in or answered, and where it lies. Nothing of it is given back while it is looked at: memory that nobody holds comes back in later answers.
type held struct {
	all   []any
	spans [][2]uintptr
}

// add takes note of where a list lies, with the room behind it.
func add[T any](h *held, list []T) {
	from := uintptr(unsafe.Pointer(unsafe.SliceData(list)))
	h.all = append(h.all, list)
	h.spans = append(h.spans, [2]uintptr{from, from + uintptr(cap(list))*unsafe.Sizeof(*new(T))})
}

// addText takes note of where a text lies. One octet lies where all of its like do, which nobody can write.
func (h *held) addText(s string) {
	if len(s) > 1 {
		from := uintptr(unsafe.Pointer(unsafe.StringData(s)))
		h.all = append(h.all, s)
		h.spans = append(h.spans, [2]uintptr{from, from + uintptr(len(s))})
	}
}

func (h *held) addState(s fs.State) {
	add(h, s.Nodes)
	for _, n := range s.Nodes {
		add(h, n.Entries)
		add(h, n.File.Blocks)
		for _, e := range n.Entries {
			h.addText(e.Name)
		}
		for _, b := range n.File.Blocks {
			add(h, b.Data)
		}
	}
}

func (h *held) addRecords(l [][]byte) {
	add(h, l)
	for _, b := range l {
		add(h, b)
	}
}

// apart tells whether no two of what is held overlap.
func (h *held) apart() bool {
	list := slices.DeleteFunc(slices.Clone(h.spans), func(s [2]uintptr) bool { return s[0] == s[1] })
	slices.SortFunc(list, func(a, b [2]uintptr) int { return slices.Compare(a[:], b[:]) })
	for i := range list {
		if i > 0 && list[i][0] < list[i-1][1] {
			return false
		}
	}
	runtime.KeepAlive(h.all)
	return true
}

// behind is l with room behind it, in which x stands.
func behind[T any](l []T, x T) []T {
	return append(slices.Clip(slices.Clone(l)), x, x, x)[:len(l)]
}

// roomy is s with room behind each of its lists, in which something stands, and names of its own.
func roomy(s fs.State) fs.State {
	s = plain(s)
	for i := range s.Nodes {
		n := &s.Nodes[i]
		for j := range n.Entries {
			n.Entries[j].Name = strings.Clone(n.Entries[j].Name)
		}
		for j := range n.File.Blocks {
			n.File.Blocks[j].Data = behind(n.File.Blocks[j].Data, 99)
		}
		n.Entries = behind(n.Entries, dir.Entry{Name: "zz", Ino: 77})
		n.File.Blocks = behind(n.File.Blocks, file.Block{Index: 70})
	}
	s.Nodes = behind(s.Nodes, fs.Node{Ino: 99, Links: 5})
	return s
}

// room is s with all that stands in the room behind its lists.
func room(s fs.State) fs.State {
	s.Nodes = slices.Clone(s.Nodes[:cap(s.Nodes)])
	for i := range s.Nodes {
		n := &s.Nodes[i]
		n.Entries = slices.Clone(n.Entries[:cap(n.Entries)])
		n.File.Blocks = slices.Clone(n.File.Blocks[:cap(n.File.Blocks)])
		for j := range n.File.Blocks {
			b := &n.File.Blocks[j]
			b.Data = slices.Clone(b.Data[:cap(b.Data)])
		}
	}
	return s
}

// roomyRecords is l with room behind it and behind each record, in which something stands.
func roomyRecords(l [][]byte) [][]byte {
	l = clones(l)
	for i := range l {
		l[i] = behind(l[i], 99)
	}
	return behind(l, []byte("room"))
}

// recordRoom is l with all that stands in the room behind it.
func recordRoom(l [][]byte) [][]byte {
	l = slices.Clone(l[:cap(l)])
	for i := range l {
		l[i] = slices.Clone(l[i][:cap(l[i])])
	}
	return l
}

// memorySubjects are two states whose names have more than one octet, with nodes that change, are new, are gone and stay.
func memorySubjects() (fs.State, fs.State) {
	a := must(fs.Mkdir(base(), "/directory"))
	a = must(fs.Create(a, "/directory/staying"))
	a = mustWrite(a, "/directory/staying", 40, strings.Repeat("text", 30))
	a = must(fs.Create(a, "/directory/going"))
	b := must(fs.Unlink(a, "/directory/going"))
	b = must(fs.Mkdir(b, "/coming"))
	b = must(fs.Create(b, "/coming/file"))
	return roomy(a), roomy(mustWrite(b, "/coming/file", 0, text(300)))
}

// refusedRecords holds records that are refused at one place or another.
func refusedRecords() [][][]byte {
	a, b := memorySubjects()
	whole := plainDiff(a, b)
	late := append(slices.Clip(whole[:len(whole)-1]), gone(99))
	return [][][]byte{nil, whole[1:], whole[:2], late, plainDiff(b, a), {head(-1, 0, 0)}, {head(2, 1), record(1, []int{1, 1, 0, 0}, entryText(dir.Entry{Name: "lost", Ino: 9}), "")}}
}

// P12.5: what is handed in is not changed, nor the room behind it.
func TestArgumentsStay(t *testing.T) {
	a, b := memorySubjects()
	list := [][][]byte{plainImage(a), plainDiff(a, b)}
	list = append(list, refusedRecords()...)
	beforeA, beforeB := room(a), room(b)
	image.Encode(a)
	image.Diff(a, b)
	image.Diff(b, a)
	for _, l := range list {
		l = roomyRecords(l)
		before := recordRoom(l)
		image.Decode(l)
		image.Patch(a, l)
		image.Patch(b, l)
		if !reflect.DeepEqual(recordRoom(l), before) {
			t.Errorf("the records %x have changed", l)
		}
	}
	if !reflect.DeepEqual(room(a), beforeA) || !reflect.DeepEqual(room(b), beforeB) {
		t.Error("a state has changed")
	}
}

// P12.5: answers share no memory with arguments, with each other, nor within one.
func TestAnswersApart(t *testing.T) {
	a, b := memorySubjects()
	h := &held{}
	h.addState(a)
	h.addState(b)
	list := [][][]byte{plainImage(a), plainDiff(a, b), {head(a.Next, 0, 0)}, plainDiff(a, fs.New())}
	for _, l := range list {
		h.addRecords(l)
		for range 2 {
			s, _ := image.Decode(l)
			h.addState(s)
			s, _ = image.Patch(a, l)
			h.addState(s)
		}
		if !h.apart() {
			t.Fatalf("a state of %x shares memory", l)
		}
	}
	for range 2 {
		l, _ := image.Encode(a)
		h.addRecords(l)
		l, _ = image.Diff(a, b)
		h.addRecords(l)
		l, _ = image.Diff(a, a)
		h.addRecords(l)
		if !h.apart() {
			t.Fatal("records share memory")
		}
	}
}

// P12.5: lists of one argument that share memory do not in the answer.
func TestSharedLists(t *testing.T) {
	data := []byte(strings.Repeat("x", 32))
	blocks := []file.Block{{Index: 0, Data: data}, {Index: 1, Data: data}}
	one := file.File{Size: 64, Blocks: blocks}
	s := fs.State{Next: 4, Nodes: []fs.Node{
		{Ino: 1, Dir: true, Entries: []dir.Entry{{Name: "first", Ino: 2}, {Name: "second", Ino: 3}}},
		{Ino: 2, Links: 1, File: one},
		{Ino: 3, Links: 1, File: one},
	}}
	h := &held{}
	add(h, data)
	add(h, blocks)
	add(h, s.Nodes)
	add(h, s.Nodes[0].Entries)
	for _, e := range s.Nodes[0].Entries {
		h.addText(e.Name)
	}
	l, err := image.Encode(s)
	h.addRecords(l)
	again, patchErr := image.Patch(s, [][]byte{head(4, 0, 0)})
	h.addState(again)
	// One record stands in two places, and its node changes a's twice.
	twice := nodeRecord(s.Nodes[1])
	put, putErr := image.Patch(s, [][]byte{head(4, 2, 0), twice, twice})
	h.addState(put)
	if err != api.OK || patchErr != api.OK || putErr != api.OK || !same(again, s) || !same(put, s) {
		t.Fatal(err, patchErr, putErr)
	}
	if !h.apart() {
		t.Error("an answer shares memory")
	}
}

// scribble writes over all that a state has.
func scribble(s fs.State) {
	for _, n := range s.Nodes {
		for _, b := range n.File.Blocks {
			clear(b.Data)
		}
		clear(n.Entries)
		clear(n.File.Blocks)
	}
	clear(s.Nodes)
}

func scribbleRecords(l [][]byte) {
	for _, b := range l {
		clear(b)
	}
	clear(l)
}

// P12.5 and P3: writing over what was handed in, or over one answer, changes no other one; the same call answers the same again.
func TestAnswersStay(t *testing.T) {
	a, b := memorySubjects()
	whole, diff := plainImage(a), plainDiff(a, b)
	firstImage, _ := image.Encode(a)
	secondImage, _ := image.Encode(a)
	firstDiff, _ := image.Diff(a, b)
	secondDiff, _ := image.Diff(a, b)
	first, _ := image.Decode(whole)
	second, _ := image.Decode(whole)
	firstPatched, _ := image.Patch(a, diff)
	secondPatched, _ := image.Patch(a, diff)
	for _, s := range []fs.State{a, b, first, firstPatched} {
		scribble(s)
	}
	for _, l := range [][][]byte{whole, diff, firstImage, firstDiff} {
		scribbleRecords(l)
	}
	a, b = memorySubjects()
	if !sameRecords(secondImage, plainImage(a)) || !sameRecords(secondDiff, plainDiff(a, b)) {
		t.Error("records have changed")
	}
	if !same(second, a) || !same(secondPatched, b) {
		t.Error("a state has changed")
	}
}

// P1: nil and empty lists are one.
func TestNilAndEmpty(t *testing.T) {
	bare, b := memorySubjects()
	bare = plain(bare)
	empty := plain(bare)
	for i := range empty.Nodes {
		n := &empty.Nodes[i]
		if n.Entries == nil {
			n.Entries = []dir.Entry{}
		}
		if n.File.Blocks == nil {
			n.File.Blocks = []file.Block{}
		}
	}
	if l, err := image.Encode(empty); err != api.OK || !sameRecords(l, plainImage(bare)) {
		t.Error("Encode tells them apart")
	}
	for _, two := range [][2]fs.State{{bare, empty}, {empty, bare}, {empty, empty}} {
		if l, err := image.Diff(two[0], two[1]); err != api.OK || !sameRecords(l, [][]byte{head(bare.Next, 0, 0)}) {
			t.Errorf("Diff tells them apart: %x, %d", l, err)
		}
	}
	holdDiff(t, "from empty", empty, b)
	holdDiff(t, "to empty", b, empty)
}
