package fs_test

import (
	"math"
	"math/rand"
	"reflect"
	"runtime"
	"slices"
	"strings"
	"testing"
	"unsafe"

	"undercroft/api"
	"undercroft/dir"
	"undercroft/file"
	"undercroft/fs"
)

// span is where a list lies in memory, with the room behind it.
func span[T any](list []T) [2]uintptr {
	from := uintptr(unsafe.Pointer(unsafe.SliceData(list)))
	return [2]uintptr{from, from + uintptr(cap(list))*unsafe.Sizeof(*new(T))}
}

// textSpan is where a text lies in memory.
func textSpan(s string) [2]uintptr {
	from := uintptr(unsafe.Pointer(unsafe.StringData(s)))
	return [2]uintptr{from, from + uintptr(len(s))}
}

// spans is where all lists and all names of an answer lie.
func spans(a answer) [][2]uintptr {
	all := [][2]uintptr{span(a.State.Nodes), span(a.Octets), span(a.Names)}
	for _, name := range a.Names {
		all = append(all, textSpan(name))
	}
	for _, n := range a.State.Nodes {
		all = append(all, span(n.Entries), span(n.File.Blocks))
		for _, e := range n.Entries {
			all = append(all, textSpan(e.Name))
		}
		for _, b := range n.File.Blocks {
			all = append(all, span(b.Data))
		}
	}
	return all
}

// apart tells whether no two of the spans overlap.
func apart(list [][2]uintptr) bool {
	list = slices.DeleteFunc(slices.Clone(list), func(s [2]uintptr) bool { return s[0] == s[1] })
	slices.SortFunc(list, func(a, b [2]uintptr) int { return slices.Compare(a[:], b[:]) })
	for i := range list {
		if i > 0 && list[i][0] < list[i-1][1] {
			return false
		}
	}
	return true
}

// behind is l with room behind it, in which x stands.
func behind[T any](l []T, x T) []T {
	return append(slices.Clip(slices.Clone(l)), x, x, x)[:len(l)]
}

// roomy is s with room behind each of its lists, in which something stands, and names of its own.
func roomy(s fs.State) fs.State {
	s = copied(s)
	for i := range s.Nodes {
		n := &s.Nodes[i]
		for j := range n.Entries {
			n.Entries[j].Name = strings.Clone(n.Entries[j].Name)
		}
		for j := range n.File.Blocks {
			n.File.Blocks[j].Data = behind(n.File.Blocks[j].Data, 99)
		}
		n.Entries = behind(n.Entries, dir.Entry{Name: "zz", Ino: 77})
		n.File.Blocks = behind(n.File.Blocks, file.Block{Index: 70})
	}
	s.Nodes = behind(s.Nodes, fs.Node{Ino: 99, Links: 5})
	return s
}

// room is s with all that stands in the room behind its lists.
func room(s fs.State) fs.State {
	s.Nodes = slices.Clone(s.Nodes[:cap(s.Nodes)])
	for i := range s.Nodes {
		n := &s.Nodes[i]
		n.Entries = slices.Clone(n.Entries[:cap(n.Entries)])
		n.File.Blocks = slices.Clone(n.File.Blocks[:cap(n.File.Blocks)])
		for j := range n.File.Blocks {
			b := &n.File.Blocks[j]
			b.Data = slices.Clone(b.Data[:cap(b.Data)])
		}
	}
	return s
}

// deeds holds ops on base: of each kind some that are done, and some that are refused.
func deeds() []api.Op {
	data := slices.Grow([]byte("data that are written"), 40)
	return []api.Op{
		{Kind: find, Path: "/a/b/h"},
		{Kind: create, Path: "/new"}, {Kind: create, Path: "/a/new"}, {Kind: create, Path: "/f"}, {Kind: create, Path: "/c/x"},
		{Kind: mkdir, Path: "/new"}, {Kind: mkdir, Path: "/a/b/A"}, {Kind: mkdir, Path: "/"},
		{Kind: unlink, Path: "/f"}, {Kind: unlink, Path: "/c/j"}, {Kind: unlink, Path: "/a/b/h"}, {Kind: unlink, Path: "/a"},
		{Kind: rmdir, Path: "/a"}, {Kind: rmdir, Path: "/e"},
		{Kind: rename, Path: "/f", To: "/new"}, {Kind: rename, Path: "/a/b", To: "/c/b"}, {Kind: rename, Path: "/f", To: "/a/g"}, {Kind: rename, Path: "/c/j", To: "/f"}, {Kind: rename, Path: "/c", To: "/e"}, {Kind: rename, Path: "/a", To: "/a/x"}, {Kind: rename, Path: "/c", To: "/c"},
		{Kind: link, Path: "/c/j", To: "/new"}, {Kind: link, Path: "/f", To: "/c/f"}, {Kind: link, Path: "/f", To: "/a"},
		{Kind: write, Path: "/f", Off: 3, Data: data}, {Kind: write, Path: "/c/j", Off: 200, Data: data}, {Kind: write, Path: "/c/j", Off: 2}, {Kind: write, Path: "/c/j", Off: largest, Data: data},
		{Kind: truncate, Path: "/c/j", Off: 40}, {Kind: truncate, Path: "/c/j", Off: 1000}, {Kind: truncate, Path: "/c/j", Off: 0}, {Kind: truncate, Path: "/c/j", Off: -1},
		{Kind: read, Path: "/c/j", Off: 10, N: 80}, {Kind: read, Path: "/f", N: largest}, {Kind: read, Path: "/a"},
		{Kind: list, Path: "/"}, {Kind: list, Path: "/a"}, {Kind: list, Path: "/f"},
		{Kind: stat, Path: "/"}, {Kind: stat, Path: "/f"},
	}
}

// subject is base with an empty directory beside the others.
func subject(t testing.TB) fs.State {
	return modelOf(base(t)).do(api.Op{Kind: mkdir, Path: "/e"}).State
}

// P10.8 and P10.7: what is handed in is not changed, nor the room behind it.
func TestArgumentsStay(t *testing.T) {
	s := roomy(subject(t))
	before := room(s)
	for _, o := range deeds() {
		data := slices.Clone(o.Data[:cap(o.Data)])
		fs.Check(s)
		call(s, o)
		if !reflect.DeepEqual(room(s), before) || !slices.Equal(o.Data[:cap(o.Data)], data) {
			t.Fatalf("%+v changed what was handed in", o)
		}
	}
}

// P10.8: answers share no memory with arguments, with each other, nor within one.
func TestAnswersApart(t *testing.T) {
	s := roomy(subject(t))
	// All of them are held until they are looked at: memory that nobody holds comes back in later answers.
	held := []answer{{State: s}}
	all := spans(held[0])
	for _, o := range deeds() {
		o.Path, o.To, o.Data = strings.Clone(o.Path), strings.Clone(o.To), slices.Clone(o.Data)
		all = append(all, span(o.Data), textSpan(o.Path), textSpan(o.To))
		held = append(held, answer{Octets: o.Data, Names: []string{o.Path, o.To}})
		for range 2 {
			a := call(s, o)
			held = append(held, a)
			all = append(all, spans(a)...)
		}
		if !apart(all) {
			t.Fatalf("an answer of %+v shares memory", o)
		}
	}
	for range 2 {
		a := answer{State: fs.New()}
		held = append(held, a)
		all = append(all, spans(a)...)
	}
	if !apart(all) {
		t.Error("an answer of New shares memory")
	}
	runtime.KeepAlive(held)
}

// scribble writes over all that a state has.
func scribble(s fs.State) {
	for _, n := range s.Nodes {
		for _, b := range n.File.Blocks {
			clear(b.Data)
		}
		clear(n.Entries)
		clear(n.File.Blocks)
	}
	clear(s.Nodes)
}

// P10.8: writing over what was handed in, or over one answer, changes no other answer.
func TestAnswersStay(t *testing.T) {
	for _, o := range deeds() {
		s := subject(t)
		want := modelOf(s).do(o)
		o.Data = slices.Clone(o.Data)
		first, second := call(s, o), call(s, o)
		scribble(s)
		clear(o.Data)
		scribble(first.State)
		clear(first.Octets)
		clear(first.Names)
		if !sameAnswer(second, want) {
			t.Errorf("%+v: an answer has changed", o)
		}
	}
	first, second := fs.New(), fs.New()
	scribble(first)
	if fs.Check(second) != api.OK || fs.Check(fs.New()) != api.OK {
		t.Error("New has changed")
	}
}

// P10.8: lists of one state that share memory do not in the answer.
func TestSharedLists(t *testing.T) {
	data := []byte(strings.Repeat("x", 32))
	blocks := []file.Block{{Index: 0, Data: data}, {Index: 1, Data: data}}
	one := file.File{Size: 64, Blocks: blocks}
	s := fs.State{Next: 4, Nodes: []fs.Node{
		{Ino: 1, Dir: true, Entries: []dir.Entry{{Name: "f", Ino: 2}, {Name: "g", Ino: 3}}},
		{Ino: 2, Links: 1, File: one},
		{Ino: 3, Links: 1, File: one},
	}}
	for _, o := range []api.Op{
		{Kind: write, Path: "/f", Off: 3, Data: []byte("y")}, {Kind: truncate, Path: "/g", Off: 33}, {Kind: create, Path: "/h"}, {Kind: unlink, Path: "/f"}, {Kind: rename, Path: "/f", To: "/g"}, {Kind: link, Path: "/f", To: "/h"}, {Kind: write, Path: "/g", Off: 16, Data: data},
	} {
		modelOf(s).check(t, s, o)
		got := call(s, o)
		if !apart(append(spans(got), span(data), span(blocks), span(s.Nodes))) {
			t.Errorf("%+v: the answer shares memory", o)
		}
		runtime.KeepAlive(got)
	}
}

// P1: nil and empty lists are one.
func TestNilAndEmpty(t *testing.T) {
	bare := subject(t)
	empty := with(bare, func(s *fs.State) {
		for i := range s.Nodes {
			n := &s.Nodes[i]
			if n.Entries == nil {
				n.Entries = []dir.Entry{}
			}
			if n.File.Blocks == nil {
				n.File.Blocks = []file.Block{}
			}
		}
	})
	for _, o := range deeds() {
		if !sameAnswer(call(bare, o), call(empty, o)) {
			t.Errorf("%+v tells them apart", o)
		}
		if o.Kind == write && o.Data == nil {
			o.Data = []byte{}
			if !sameAnswer(call(bare, o), call(empty, o)) {
				t.Errorf("%+v tells no data from none", o)
			}
		}
	}
}

// P3: the same call answers the same again.
func TestAgain(t *testing.T) {
	for range 5 {
		for _, o := range deeds() {
			if a, b := call(subject(t), o), call(subject(t), o); !reflect.DeepEqual(a, b) {
				t.Fatalf("%+v answers otherwise", o)
			}
		}
	}
}

// P10.6: one file system has one state, whatever way led there.
func TestOneState(t *testing.T) {
	for _, o := range deeds() {
		a := call(subject(t), o)
		if !changes(o.Kind) || a.Err != api.OK {
			continue
		}
		for range 3 {
			if again := call(a.State, api.Op{Kind: rename, Path: "/a", To: "/a"}); !reflect.DeepEqual(again.State, copied(a.State)) {
				t.Errorf("%+v: %+v is not %+v", o, again.State, a.State)
			}
		}
	}
}

// P1: states of great size, and of numbers of any size, bring no panic and no long wait.
func TestGreat(t *testing.T) {
	long := strings.Repeat("/a", 1<<20)
	for _, s := range []fs.State{
		{Next: 2, Nodes: make([]fs.Node, 1<<20)},
		{Next: 2, Nodes: []fs.Node{{Ino: 1, Dir: true, Entries: make([]dir.Entry, 1<<20)}}},
		{Next: 2, Nodes: []fs.Node{{Ino: 1, Dir: true, File: file.File{Blocks: make([]file.Block, 1<<20)}}}},
		{Next: 3, Nodes: []fs.Node{{Ino: 1, Dir: true, Entries: []dir.Entry{{Name: "f", Ino: 2}}}, {Ino: 2, Links: 1, File: file.File{Size: 9, Blocks: make([]file.Block, 1<<20)}}}},
		tangled(),
	} {
		for kind := find; kind <= stat; kind++ {
			if got := call(s, api.Op{Kind: kind, Path: long, To: long}); !sameAnswer(got, refused(api.ErrState)) {
				t.Errorf("op %d tells %d", kind, got.Err)
			}
		}
	}
	for kind := find; kind <= stat; kind++ {
		if got := call(fs.New(), api.Op{Kind: kind, Path: long, To: long}); !sameAnswer(got, refused(api.ErrLong)) {
			t.Errorf("op %d tells %d", kind, got.Err)
		}
	}
}

// tangled is 128 directories, each of which names 63 others: ways without end lead through it.
func tangled() fs.State {
	s := fs.State{Next: mostNodes + 1}
	for i := range mostNodes {
		n := fs.Node{Ino: i + 1, Dir: true, Links: mostEntries}
		for j := range mostEntries {
			n.Entries = append(n.Entries, dir.Entry{Name: numbered(j), Ino: 1 + (i+j+1)%mostNodes})
		}
		s.Nodes = append(s.Nodes, n)
	}
	s.Nodes[0].Links = 0
	return s
}

// P1: states of chance bring no panic.
func TestAnything(t *testing.T) {
	chance := rand.New(rand.NewSource(1))
	numbers := []int{math.MinInt, -1, 0, 1, 1, 2, 2, 3, 4, 5, 128, lastNext, lastNext + 1, math.MaxInt}
	number := func() int { return numbers[chance.Intn(len(numbers))] }
	names := []string{"", "a", "b", "f", "/", ".", "\xff"}
	for range 20000 {
		s := fs.State{Next: number()}
		for i := range chance.Intn(5) {
			n := fs.Node{Ino: i + 1, Dir: chance.Intn(2) == 0, Links: chance.Intn(3)}
			if chance.Intn(4) == 0 {
				n.Ino, n.Links, n.File.Size = number(), number(), number()
			}
			for range chance.Intn(4) {
				n.Entries = append(n.Entries, dir.Entry{Name: names[chance.Intn(len(names))], Ino: number()})
			}
			s.Nodes = append(s.Nodes, n)
		}
		o := api.Op{Kind: chance.Intn(12), Path: "/" + names[chance.Intn(len(names))], To: names[chance.Intn(len(names))], Off: number(), N: number(), Data: make([]byte, chance.Intn(5))}
		want := refused(api.ErrState)
		if mayBe(s) {
			want = modelOf(s).do(o)
		}
		if got := call(s, o); !sameAnswer(got, want) {
			t.Fatalf("of %+v %+v tells %+v, not %+v", s, o, got, want)
		}
	}
}

// P10.1 to P10.7: whatever ops come, the answers are those of the model.
func FuzzOps(f *testing.F) {
	f.Add([]byte{2, 0, 0, 1, 9, 0, 5, 9, 1, 7, 3, 200})
	f.Add([]byte{2, 1, 0, 2, 9, 9, 5, 9, 2, 6, 1, 1, 4, 3, 3})
	f.Fuzz(func(t *testing.T, script []byte) {
		paths := []string{"/", "/a", "/b", "/a/b", "/a/b/c", "/a/b/c/d/e/f/g", "/f", "/a/f", "/b/a", "//a//f/", "no", "/b/a/b", "/a/b/c/d", "/a/b/c/d/e", "/a/b/c/d/e/f", "/a/b/c/d/e/f/g/h"}
		s := fs.New()
		m := modelOf(s)
		for ; len(script) >= 3; script = script[3:] {
			to := int(script[2])
			o := api.Op{Kind: int(script[0]) % 12, Path: paths[int(script[1])%len(paths)], To: paths[to%len(paths)], Off: to * 10, N: to, Data: script[:to%(len(script)+1)]}
			s = m.check(t, s, o)
		}
	})
}
