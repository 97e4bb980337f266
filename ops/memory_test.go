package ops_test

import (
	"reflect"
	"runtime"
	"slices"
	"strings"
	"testing"
	"unsafe"

	"undercroft/api"
	"undercroft/dir"
	"undercroft/file"
	"undercroft/fs"
	"undercroft/ops"
)

// held is all that was handed in or answered, and where it lies. Nothing of it is given back while it is looked at: memory that nobody holds comes back in later answers.
type held struct {
	all   []any
	spans [][2]uintptr
}

// add takes note of where a list lies, with the room behind it.
func add[T any](h *held, list []T) {
	from := uintptr(unsafe.Pointer(unsafe.SliceData(list)))
	h.all = append(h.all, list)
	h.spans = append(h.spans, [2]uintptr{from, from + uintptr(cap(list))*unsafe.Sizeof(*new(T))})
}

// addText takes note of where a text lies. One octet lies where all of its like do, which nobody can write.
func (h *held) addText(s string) {
	if len(s) > 1 {
		from := uintptr(unsafe.Pointer(unsafe.StringData(s)))
		h.all = append(h.all, s)
		h.spans = append(h.spans, [2]uintptr{from, from + uintptr(len(s))})
	}
}

func (h *held) addState(s fs.State) {
	add(h, s.Nodes)
	for _, n := range s.Nodes {
		add(h, n.Entries)
		add(h, n.File.Blocks)
		for _, e := range n.Entries {
			h.addText(e.Name)
		}
		for _, b := range n.File.Blocks {
			add(h, b.Data)
		}
	}
}

func (h *held) addOp(o api.Op) {
	h.addText(o.Path)
	h.addText(o.To)
	add(h, o.Data)
}

func (h *held) addReply(r api.Reply) {
	add(h, r.Data)
	add(h, r.Names)
	for _, name := range r.Names {
		h.addText(name)
	}
}

// apart tells whether no two of what is held overlap.
func (h *held) apart() bool {
	list := slices.DeleteFunc(slices.Clone(h.spans), func(s [2]uintptr) bool { return s[0] == s[1] })
	slices.SortFunc(list, func(a, b [2]uintptr) int { return slices.Compare(a[:], b[:]) })
	for i := range list {
		if i > 0 && list[i][0] < list[i-1][1] {
			return false
		}
	}
	runtime.KeepAlive(h.all)
	return true
}

// behind is l with room behind it, in which x stands.
func behind[T any](l []T, x T) []T {
	return append(slices.Clip(slices.Clone(l)), x, x, x)[:len(l)]
}

// roomy is s with room behind each of its lists, in which something stands, and names of its own.
func roomy(s fs.State) fs.State {
	s = plain(s)
	for i := range s.Nodes {
		n := &s.Nodes[i]
		for j := range n.Entries {
			n.Entries[j].Name = strings.Clone(n.Entries[j].Name)
		}
		for j := range n.File.Blocks {
			n.File.Blocks[j].Data = behind(n.File.Blocks[j].Data, 99)
		}
		n.Entries = behind(n.Entries, dir.Entry{Name: "zz", Ino: 77})
		n.File.Blocks = behind(n.File.Blocks, file.Block{Index: 70})
	}
	s.Nodes = behind(s.Nodes, fs.Node{Ino: 99, Links: 5})
	return s
}

// room is s with all that stands in the room behind its lists.
func room(s fs.State) fs.State {
	s.Nodes = slices.Clone(s.Nodes[:cap(s.Nodes)])
	for i := range s.Nodes {
		n := &s.Nodes[i]
		n.Entries = slices.Clone(n.Entries[:cap(n.Entries)])
		n.File.Blocks = slices.Clone(n.File.Blocks[:cap(n.File.Blocks)])
		for j := range n.File.Blocks {
			b := &n.File.Blocks[j]
			b.Data = slices.Clone(b.Data[:cap(b.Data)])
		}
	}
	return s
}

// subject is a state whose names have more than one octet.
func subject() fs.State {
	s := must(fs.Mkdir(base(), "/directory"))
	s = must(fs.Create(s, "/directory/file"))
	return mustWrite(s, "/directory/file", 40, strings.Repeat("text", 30))
}

// deeds holds ops of all kinds on subject: done, and refused.
func deeds() []api.Op {
	list := []api.Op{
		{Kind: 1, Path: "/created"}, {Kind: 2, Path: "/directory/made"}, {Kind: 3, Path: "/directory/file"}, {Kind: 4, Path: "/e"},
		{Kind: 5, Path: "/directory", To: "/e/renamed"}, {Kind: 5, Path: "/directory", To: "/directory"}, {Kind: 6, Path: "/directory/file", To: "/linked"},
		{Kind: 7, Path: "/directory/file", Off: 33, Data: []byte("written over it")}, {Kind: 7, Path: "/h", Data: []byte("written")}, {Kind: 7, Path: "/h", Data: []byte{}},
		{Kind: 8, Path: "/directory/file", Off: 50}, {Kind: 8, Path: "/directory/file", Off: 500},
		{Kind: 9, Path: "/directory/file", N: 200}, {Kind: 9, Path: "/h", N: 200}, {Kind: 10, Path: "/"}, {Kind: 10, Path: "/e"}, {Kind: 11, Path: "/directory"}, {Kind: 11, Path: "/h"}, {Kind: 12},
		{Kind: 1, Path: "/h"}, {Kind: 2, Path: "/"}, {Kind: 3, Path: "/e"}, {Kind: 4, Path: "/directory"}, {Kind: 5, Path: "/no", To: "/yes"}, {Kind: 6, Path: "/e", To: "/yes"},
		{Kind: 7, Path: "/e", Data: []byte("written")}, {Kind: 8, Path: "/h", Off: -1}, {Kind: 9, Path: "/no"}, {Kind: 10, Path: "/h"}, {Kind: 11, Path: "/no"},
		{Kind: 13, Data: []byte("written")},
	}
	for i := range list {
		o := &list[i]
		o.Path, o.To, o.Data = strings.Clone(o.Path), strings.Clone(o.To), behind(o.Data, 88)
	}
	return list
}

// replies holds replies with names of more than one octet.
func replies() []api.Reply {
	return []api.Reply{
		{}, {Err: 101, N: 5, Data: behind([]byte("some data"), 7)},
		{N: 2, Data: []byte("data"), Names: behind([]string{strings.Clone("first"), strings.Clone("second")}, "room")},
		{N: -1, Data: []byte("data")}, {Names: make([]string, 64)},
	}
}

// P11.5: what is handed in is not changed, nor the room behind it.
func TestArgumentsStay(t *testing.T) {
	s, list := roomy(subject()), deeds()
	before, listBefore := room(s), deeds()
	for i, o := range list {
		ops.Check(o)
		ops.Encode(o)
		ops.Apply(s, o)
		ops.Run(s, list[:i])
	}
	ops.Run(s, list)
	if !reflect.DeepEqual(room(s), before) {
		t.Error("the state has changed")
	}
	for i, o := range list {
		if !reflect.DeepEqual(o, listBefore[i]) || !slices.Equal(o.Data[:cap(o.Data)], listBefore[i].Data[:cap(o.Data)]) {
			t.Errorf("%+v has changed", listBefore[i])
		}
	}
	told, toldBefore := replies(), replies()
	for i, r := range told {
		ops.EncodeReply(r)
		if !reflect.DeepEqual(r, toldBefore[i]) || !slices.Equal(r.Data[:cap(r.Data)], toldBefore[i].Data[:cap(r.Data)]) || !slices.Equal(r.Names[:cap(r.Names)], toldBefore[i].Names[:cap(r.Names)]) {
			t.Errorf("%+v has changed", toldBefore[i])
		}
	}
}

// P11.5: states and replies share no memory with arguments, with each other, nor within one.
func TestAppliedApart(t *testing.T) {
	s, list := roomy(subject()), deeds()
	h := &held{}
	h.addState(s)
	add(h, list)
	for _, o := range list {
		h.addOp(o)
		for range 2 {
			next, r, _ := ops.Apply(s, o)
			h.addState(next)
			h.addReply(r)
		}
		if !h.apart() {
			t.Fatalf("an answer of %+v shares memory", o)
		}
	}
	right := list[:len(list)-1]
	for _, l := range [][]api.Op{nil, {{Kind: 12}}, {{Kind: 3, Path: "/no"}}, right, right, list} {
		end, told, _ := ops.Run(s, l)
		h.addState(end)
		add(h, told)
		for _, r := range told {
			h.addReply(r)
		}
		if !h.apart() {
			t.Fatalf("an answer of Run of %+v shares memory", l)
		}
	}
}

// P11.5: octets, and what is read in them, lie apart.
func TestCodedApart(t *testing.T) {
	h := &held{}
	for _, o := range deeds() {
		h.addOp(o)
		for range 2 {
			b, _ := ops.Encode(o)
			add(h, b)
			for range 2 {
				back, _ := ops.Decode(b)
				h.addOp(back)
			}
		}
	}
	for _, r := range replies() {
		h.addReply(r)
		for range 2 {
			b, _ := ops.EncodeReply(r)
			add(h, b)
			for range 2 {
				back, _ := ops.DecodeReply(b)
				h.addReply(back)
			}
		}
	}
	if !h.apart() {
		t.Error("octets or what is read in them share memory")
	}
}

// P11.5: lists of one state that share memory do not in the answer, of one that may not be neither.
func TestSharedLists(t *testing.T) {
	data := []byte(strings.Repeat("x", 32))
	blocks := []file.Block{{Index: 0, Data: data}, {Index: 1, Data: data}}
	one := file.File{Size: 64, Blocks: blocks}
	s := fs.State{Next: 4, Nodes: []fs.Node{
		{Ino: 1, Dir: true, Entries: []dir.Entry{{Name: "first", Ino: 2}, {Name: "second", Ino: 3}}},
		{Ino: 2, Links: 1, File: one},
		{Ino: 3, Links: 1, File: one},
	}}
	h := &held{}
	add(h, data)
	add(h, blocks)
	add(h, s.Nodes)
	add(h, s.Nodes[0].Entries)
	for _, o := range []api.Op{{Kind: 12}, {Kind: 3, Path: "/no"}, {Kind: 9, Path: "/first", N: 64}, {Kind: 1, Path: "/third"}} {
		next, r, err := ops.Apply(s, o)
		if err != api.OK {
			t.Fatal(o, err)
		}
		h.addState(next)
		h.addReply(r)
	}
	s.Next = -1
	for _, l := range [][]api.Op{nil, {{Kind: 12}}} {
		end, _, _ := ops.Run(s, l)
		h.addState(end)
	}
	if !h.apart() {
		t.Error("an answer shares memory")
	}
}

// scribble writes over all that a state has.
func scribble(s fs.State) {
	for _, n := range s.Nodes {
		for _, b := range n.File.Blocks {
			clear(b.Data)
		}
		clear(n.Entries)
		clear(n.File.Blocks)
	}
	clear(s.Nodes)
}

// P11.5 and P3: writing over what was handed in, or over one answer, changes no other one; the same call answers the same again.
func TestAnswersStay(t *testing.T) {
	for i, o := range deeds() {
		s := subject()
		first, firstReply, _ := ops.Apply(s, o)
		second, secondReply, _ := ops.Apply(s, o)
		b, _ := ops.Encode(o)
		back, _ := ops.Decode(b)
		scribble(s)
		scribble(first)
		clear(firstReply.Data)
		clear(firstReply.Names)
		clear(o.Data)
		clear(b)
		want, wantReply, wantErr := ops.Apply(subject(), deeds()[i])
		if !same(second, want) || !sameReply(secondReply, wantReply) {
			t.Errorf("%+v: an answer has changed", o)
		}
		if wantErr == api.OK && !sameOp(back, deeds()[i]) {
			t.Errorf("%+v is %+v now", deeds()[i], back)
		}
	}
}

// P1: nil and empty lists are one.
func TestNilAndEmpty(t *testing.T) {
	bare, empty := plain(subject()), plain(subject())
	for i := range empty.Nodes {
		n := &empty.Nodes[i]
		if n.Entries == nil {
			n.Entries = []dir.Entry{}
		}
		if n.File.Blocks == nil {
			n.File.Blocks = []file.Block{}
		}
	}
	for _, o := range deeds() {
		want, wantReply, wantErr := ops.Apply(bare, o)
		if len(o.Data) == 0 {
			o.Data = nil
		}
		if got, r, err := ops.Apply(empty, o); err != wantErr || !sameReply(r, wantReply) || !same(got, want) {
			t.Errorf("%+v tells them apart", o)
		}
	}
	for _, kind := range []int{7, 12} {
		a, _ := ops.Encode(api.Op{Kind: kind})
		b, _ := ops.Encode(api.Op{Kind: kind, Data: []byte{}})
		if !slices.Equal(a, b) {
			t.Error("Encode tells them apart")
		}
	}
}
