package ops_test

import (
	"math"
	"math/rand"
	"reflect"
	"slices"
	"strconv"
	"strings"
	"testing"

	"undercroft/api"
	"undercroft/dir"
	"undercroft/file"
	"undercroft/fs"
	"undercroft/ops"
)

// plain is s with nil for each empty list, in memory of its own.
func plain(s fs.State) fs.State {
	out := fs.State{Next: s.Next}
	for _, n := range s.Nodes {
		n.Entries = append([]dir.Entry(nil), n.Entries...)
		blocks := n.File.Blocks
		n.File.Blocks = nil
		for _, b := range blocks {
			n.File.Blocks = append(n.File.Blocks, file.Block{Index: b.Index, Data: append([]byte(nil), b.Data...)})
		}
		out.Nodes = append(out.Nodes, n)
	}
	return out
}

// same tells whether two states are one, nil and empty lists being one.
func same(a, b fs.State) bool {
	return reflect.DeepEqual(plain(a), plain(b))
}

// must is a state that fs tells without an error.
func must(s fs.State, err api.Errno) fs.State {
	if err != api.OK {
		panic(err)
	}
	return s
}

// mustWrite is s with a text in a file.
func mustWrite(s fs.State, p string, off int, text string) fs.State {
	next, _, err := fs.Write(s, p, off, []byte(text))
	return must(next, err)
}

// base is made by fs alone: /d holds f (of 100 octets, with a second name /g), /e is an empty directory, /h an empty file.
func base() fs.State {
	s := must(fs.Mkdir(fs.New(), "/d"))
	s = must(fs.Create(s, "/d/f"))
	s = mustWrite(s, "/d/f", 97, "end")
	s = mustWrite(s, "/d/f", 0, "beginning")
	s = must(fs.Link(s, "/d/f", "/g"))
	s = must(fs.Mkdir(s, "/e"))
	return must(fs.Create(s, "/h"))
}

// byFS tells what fs itself tells of an op: the state behind it, and the reply. It holds Apply to fs, kind by kind.
func byFS(s fs.State, o api.Op) (fs.State, api.Reply) {
	table := map[int]func() (fs.State, api.Reply){
		1: func() (fs.State, api.Reply) { return told(fs.Create(s, o.Path)) },
		2: func() (fs.State, api.Reply) { return told(fs.Mkdir(s, o.Path)) },
		3: func() (fs.State, api.Reply) { return told(fs.Unlink(s, o.Path)) },
		4: func() (fs.State, api.Reply) { return told(fs.Rmdir(s, o.Path)) },
		5: func() (fs.State, api.Reply) { return told(fs.Rename(s, o.Path, o.To)) },
		6: func() (fs.State, api.Reply) { return told(fs.Link(s, o.Path, o.To)) },
		7: func() (fs.State, api.Reply) {
			next, n, err := fs.Write(s, o.Path, o.Off, o.Data)
			return next, api.Reply{Err: err, N: n}
		},
		8: func() (fs.State, api.Reply) { return told(fs.Truncate(s, o.Path, o.Off)) },
		9: func() (fs.State, api.Reply) {
			data, err := fs.Read(s, o.Path, o.Off, o.N)
			return s, api.Reply{Err: err, N: len(data), Data: data}
		},
		10: func() (fs.State, api.Reply) {
			names, err := fs.List(s, o.Path)
			return s, api.Reply{Err: err, N: len(names), Names: names}
		},
		11: func() (fs.State, api.Reply) {
			_, isDir, size, _, err := fs.Stat(s, o.Path)
			r := api.Reply{Err: err, N: size}
			if err == api.OK {
				r.Data = []byte{map[bool]byte{true: 1}[isDir]}
			}
			return s, r
		},
		12: func() (fs.State, api.Reply) { return s, api.Reply{} },
	}
	next, r := table[o.Kind]()
	if r.Err != api.OK {
		return s, r
	}
	return next, r
}

func told(s fs.State, err api.Errno) (fs.State, api.Reply) {
	return s, api.Reply{Err: err}
}

// holdApply holds Apply of an op that may be to fs, and answers the state behind it.
func holdApply(t *testing.T, s fs.State, o api.Op) fs.State {
	t.Helper()
	before := plain(s)
	wantState, want := byFS(s, o)
	got, r, err := ops.Apply(s, o)
	if err != api.OK || !sameReply(r, want) || !same(got, wantState) {
		t.Fatalf("of %+v\n%+v tells %+v, %+v, %d,\nnot %+v, %+v", before, o, got, r, err, wantState, want)
	}
	if !same(s, before) {
		t.Fatalf("%+v changed what was handed in", o)
	}
	// P11.4.
	if (o.Kind >= 9 || r.Err != api.OK) && !same(got, before) {
		t.Fatalf("%+v, told %d, changed the state", o, r.Err)
	}
	// P10.6, and a reply of a file system has octets.
	if fs.Check(got) != api.OK {
		t.Fatalf("%+v makes what may not be: %+v", o, got)
	}
	if _, err := ops.EncodeReply(r); err != api.OK {
		t.Fatalf("the reply %+v of %+v has no octets: %d", r, o, err)
	}
	return got
}

// step is an op and what it is told.
type step struct {
	o    api.Op
	want api.Reply
}

// story goes through all kinds, with what the document says of each.
func story() []step {
	hundred := "beginning" + strings.Repeat("\x00", 88) + "end"
	return []step{
		{api.Op{Kind: 1, Path: "/new"}, api.Reply{}},
		{api.Op{Kind: 1, Path: "/new"}, api.Reply{Err: api.ErrExist}},
		{api.Op{Kind: 1, Path: "/d/f/x"}, api.Reply{Err: api.ErrNotDir}},
		{api.Op{Kind: 2, Path: "/d/s"}, api.Reply{}},
		{api.Op{Kind: 2, Path: "/no/s"}, api.Reply{Err: api.ErrNoEnt}},
		{api.Op{Kind: 10, Path: "/"}, api.Reply{N: 5, Names: []string{"d", "e", "g", "h", "new"}}},
		{api.Op{Kind: 10, Path: "/d"}, api.Reply{N: 2, Names: []string{"f", "s"}}},
		{api.Op{Kind: 10, Path: "/e"}, api.Reply{}},
		{api.Op{Kind: 10, Path: "/g"}, api.Reply{Err: api.ErrNotDir}},
		{api.Op{Kind: 11, Path: "/"}, api.Reply{N: 5, Data: []byte{1}}},
		{api.Op{Kind: 11, Path: "/d"}, api.Reply{N: 2, Data: []byte{1}}},
		{api.Op{Kind: 11, Path: "/e"}, api.Reply{Data: []byte{1}}},
		{api.Op{Kind: 11, Path: "/g"}, api.Reply{N: 100, Data: []byte{0}}},
		{api.Op{Kind: 11, Path: "/h"}, api.Reply{Data: []byte{0}}},
		{api.Op{Kind: 11, Path: "/no"}, api.Reply{Err: api.ErrNoEnt}},
		{api.Op{Kind: 9, Path: "/g", N: 1000}, api.Reply{N: 100, Data: []byte(hundred)}},
		{api.Op{Kind: 9, Path: "/d/f", Off: 5, N: 3}, api.Reply{N: 3, Data: []byte("nin")}},
		{api.Op{Kind: 9, Path: "/d/f", Off: 98, N: math.MaxInt}, api.Reply{N: 2, Data: []byte("nd")}},
		{api.Op{Kind: 9, Path: "/d/f", Off: 100, N: 1}, api.Reply{}},
		{api.Op{Kind: 9, Path: "/d/f", Off: 3}, api.Reply{}},
		{api.Op{Kind: 9, Path: "/d/f", Off: -1, N: 1}, api.Reply{Err: api.ErrRange}},
		{api.Op{Kind: 9, Path: "/d/f", N: -1}, api.Reply{Err: api.ErrRange}},
		{api.Op{Kind: 9, Path: "/d", N: 1}, api.Reply{Err: api.ErrIsDir}},
		{api.Op{Kind: 9, Path: "/x", N: 9}, api.Reply{Err: 101}},
		{api.Op{Kind: 3, Path: "/d"}, api.Reply{Err: api.ErrIsDir}},
		{api.Op{Kind: 3, Path: "/g"}, api.Reply{}},
		{api.Op{Kind: 3, Path: "/g"}, api.Reply{Err: api.ErrNoEnt}},
		{api.Op{Kind: 4, Path: "/d"}, api.Reply{Err: api.ErrNotEmpty}},
		{api.Op{Kind: 4, Path: "/d/f"}, api.Reply{Err: api.ErrNotDir}},
		{api.Op{Kind: 4, Path: "/d/s"}, api.Reply{}},
		{api.Op{Kind: 4, Path: "/"}, api.Reply{Err: api.ErrInval}},
		{api.Op{Kind: 5, Path: "/d", To: "/e/m"}, api.Reply{}},
		{api.Op{Kind: 5, Path: "/d", To: "/x"}, api.Reply{Err: api.ErrNoEnt}},
		{api.Op{Kind: 5, Path: "/e", To: "/e/m/x"}, api.Reply{Err: api.ErrInval}},
		{api.Op{Kind: 5, Path: "/e", To: "/e"}, api.Reply{}},
		{api.Op{Kind: 6, Path: "/e/m/f", To: "/k"}, api.Reply{}},
		{api.Op{Kind: 6, Path: "/e", To: "/k2"}, api.Reply{Err: api.ErrIsDir}},
		{api.Op{Kind: 6, Path: "/k", To: "/h"}, api.Reply{Err: api.ErrExist}},
		{api.Op{Kind: 7, Path: "/k", Off: 99, Data: []byte("more")}, api.Reply{N: 4}},
		{api.Op{Kind: 7, Path: "/k", Off: 7}, api.Reply{}},
		{api.Op{Kind: 7, Path: "/k", Off: 2430, Data: []byte("abc")}, api.Reply{Err: api.ErrBig}},
		{api.Op{Kind: 7, Path: "/k", Off: -1, Data: []byte("abc")}, api.Reply{Err: api.ErrRange}},
		{api.Op{Kind: 7, Path: "/k", Data: make([]byte, 4096)}, api.Reply{Err: api.ErrBig}},
		{api.Op{Kind: 9, Path: "/e/m/f", Off: 97, N: 99}, api.Reply{N: 6, Data: []byte("enmore")}},
		{api.Op{Kind: 8, Path: "/k", Off: 5, N: 99}, api.Reply{}},
		{api.Op{Kind: 9, Path: "/k", N: 99}, api.Reply{N: 5, Data: []byte("begin")}},
		{api.Op{Kind: 8, Path: "/k", Off: 7, N: 1}, api.Reply{}},
		{api.Op{Kind: 9, Path: "/k", N: 99}, api.Reply{N: 7, Data: []byte("begin\x00\x00")}},
		{api.Op{Kind: 8, Path: "/k", Off: 2433}, api.Reply{Err: api.ErrBig}},
		{api.Op{Kind: 8, Path: "/k", Off: -1}, api.Reply{Err: api.ErrRange}},
		{api.Op{Kind: 12}, api.Reply{}},
		{api.Op{Kind: 12, Path: "no path", To: "none", Off: -1, N: -1, Data: []byte("x")}, api.Reply{}},
		{api.Op{Kind: 1, Path: "no path"}, api.Reply{Err: api.ErrName}},
		{api.Op{Kind: 1, Path: "/" + strings.Repeat("a", 17)}, api.Reply{Err: api.ErrName}},
		{api.Op{Kind: 1, Path: strings.Repeat("/", 129)}, api.Reply{Err: api.ErrLong}},
		{api.Op{Kind: 11, Path: strings.Repeat("/", 255)}, api.Reply{Err: api.ErrLong}},
		{api.Op{Kind: 5, Path: "/k", To: strings.Repeat("/", 255)}, api.Reply{Err: api.ErrLong}},
		{api.Op{Kind: 10, Path: "/"}, api.Reply{N: 4, Names: []string{"e", "h", "k", "new"}}},
		{api.Op{Kind: 10, Path: "/e/m"}, api.Reply{N: 1, Names: []string{"f"}}},
	}
}

// P11.2 and P11.4: each op is told what the document says, one by one and all at once.
func TestStory(t *testing.T) {
	s := base()
	var list []api.Op
	for _, c := range story() {
		list = append(list, c.o)
		_, r, err := ops.Apply(s, c.o)
		if err != api.OK || !sameReply(r, c.want) {
			t.Errorf("%+v is told %+v, %d, not %+v", c.o, r, err, c.want)
		}
		s = holdApply(t, s, c.o)
	}
	end, replies, err := ops.Run(base(), list)
	if err != api.OK || len(replies) != len(list) || !same(end, s) {
		t.Fatalf("Run: %+v, %d replies, %d, not %+v", end, len(replies), err, s)
	}
	for i, c := range story() {
		if !sameReply(replies[i], c.want) {
			t.Errorf("Run: %+v is told %+v, not %+v", c.o, replies[i], c.want)
		}
	}
}

// P11.2: fields that an op has no use for say nothing.
func TestIdleFields(t *testing.T) {
	for _, c := range story() {
		o := c.o
		if o.Kind != 5 && o.Kind != 6 {
			o.To = "not a path"
		}
		if o.Kind != 7 {
			o.Data = []byte("data")
		}
		if o.Kind != 7 && o.Kind != 8 && o.Kind != 9 {
			o.Off = -7
		}
		if o.Kind != 9 {
			o.N = -9
		}
		wantState, want, _ := ops.Apply(base(), c.o)
		if got, r, err := ops.Apply(base(), o); err != api.OK || !sameReply(r, want) || !same(got, wantState) {
			t.Errorf("%+v is told %+v, %d, %+v %+v", o, r, err, c.o, want)
		}
	}
}

// P11.2: what a file, and a directory, at its greatest tells.
func TestGreatest(t *testing.T) {
	whole := text(2432)
	s := mustWrite(base(), "/h", 0, whole)
	var want []string
	for i := range 63 {
		name := strings.Repeat("n", 14) + strconv.Itoa(10+i)
		want = append(want, name)
		s = must(fs.Link(withFile(s, i), "/h"+strconv.Itoa(i/15), "/e/"+name))
	}
	for _, c := range []step{
		{api.Op{Kind: 9, Path: "/h", N: math.MaxInt}, api.Reply{N: 2432, Data: []byte(whole)}},
		{api.Op{Kind: 11, Path: "/h"}, api.Reply{N: 2432, Data: []byte{0}}},
		{api.Op{Kind: 10, Path: "/e"}, api.Reply{N: 63, Names: want}},
		{api.Op{Kind: 11, Path: "/e"}, api.Reply{N: 63, Data: []byte{1}}},
		{api.Op{Kind: 1, Path: "/e/one"}, api.Reply{Err: api.ErrFull}},
		{api.Op{Kind: 7, Path: "/h", Data: []byte(whole)}, api.Reply{N: 2432}},
		{api.Op{Kind: 7, Path: "/h", Data: []byte(whole + "x")}, api.Reply{Err: api.ErrBig}},
	} {
		if _, r, err := ops.Apply(s, c.o); err != api.OK || !sameReply(r, c.want) {
			t.Errorf("%+v is told %+v, %d, not %+v", c.o, r, err, c.want)
		}
		holdApply(t, s, c.o)
	}
}

// withFile is s with, for each 15 links, one more file that they are of: no file has more than 16.
func withFile(s fs.State, i int) fs.State {
	if i%15 != 0 {
		return s
	}
	return must(fs.Create(s, "/h"+strconv.Itoa(i/15)))
}

// spoiledStates holds states that may not be.
func spoiledStates() map[string]fs.State {
	all := map[string]fs.State{
		"none":     {},
		"no nodes": {Next: 2},
		"a file":   {Next: 2, Nodes: []fs.Node{{Ino: 1}}},
		"great":    {Next: 2, Nodes: make([]fs.Node, 1<<16)},
	}
	for name, spoil := range map[string]func(s *fs.State){
		"Next":    func(s *fs.State) { s.Next = 3 },
		"Links":   func(s *fs.State) { s.Nodes[2].Links = 7 },
		"Entries": func(s *fs.State) { s.Nodes[0].Entries[0].Name = "/" },
		"File":    func(s *fs.State) { s.Nodes[2].File.Size = -1 },
	} {
		s := base()
		spoil(&s)
		all[name] = s
	}
	return all
}

func isNoState(s fs.State) bool {
	return s.Next == 0 && len(s.Nodes) == 0
}

// P11.2: a state that may not be goes ahead of an op that may not be, and both ahead of what fs tells; nothing stands beside the error.
func TestApplyRefuses(t *testing.T) {
	hold := func(name string, s fs.State, o api.Op, want api.Errno) {
		t.Helper()
		if got, r, err := ops.Apply(s, o); err != want || !isNoState(got) || !isNoReply(r) {
			t.Errorf("%s: Apply = %+v, %+v, %d, want %d", name, got, r, err, want)
		}
		for _, l := range [][]api.Op{{o}, {o, {Kind: 12}}, {o, {Kind: 13}}} {
			if got, r, err := ops.Run(s, l); err != want || !isNoState(got) || len(r) != 0 {
				t.Errorf("%s: Run = %+v, %+v, %d, want %d", name, got, r, err, want)
			}
		}
	}
	for name, s := range spoiledStates() {
		for _, c := range story() {
			hold(name, s, c.o, api.ErrState)
		}
		for _, c := range wrongOps() {
			hold(name, s, c.o, api.ErrState)
		}
	}
	for name, c := range wrongOps() {
		hold(name, base(), c.o, c.want)
	}
}

// P11.2: the first error ends Run, wherever it stands, with no state and no replies; what fs refuses does not.
func TestRunEnds(t *testing.T) {
	long := api.Op{Kind: 1, Path: strings.Repeat("a", 256)}
	for at := range 6 {
		l := []api.Op{{Kind: 2, Path: "/x"}, {Kind: 2, Path: "/x"}, {Kind: 11, Path: "/x"}, {Kind: 3, Path: "/no"}, {Kind: 12}}
		if _, r, err := ops.Run(base(), l); err != api.OK || len(r) != 5 || r[1].Err != api.ErrExist || r[3].Err != api.ErrNoEnt {
			t.Fatalf("Run: %+v, %d", r, err)
		}
		l = slices.Insert(l, at, long)
		for _, more := range [][]api.Op{nil, {{Kind: 13}}} {
			if s, r, err := ops.Run(base(), append(slices.Clip(l), more...)); err != api.ErrLong || !isNoState(s) || len(r) != 0 {
				t.Errorf("one that may not be at %d: %+v, %+v, %d", at, s, r, err)
			}
		}
	}
}

// P11.2: of no ops there is no error, and no reply; the state is as it was.
func TestRunNothing(t *testing.T) {
	for _, l := range [][]api.Op{nil, {}} {
		for _, s := range []fs.State{fs.New(), base()} {
			if got, r, err := ops.Run(s, l); err != api.OK || len(r) != 0 || !same(got, s) {
				t.Errorf("Run of nothing: %+v, %+v, %d", got, r, err)
			}
		}
		// No op is done, so that nobody asks whether the state may be.
		for name, s := range spoiledStates() {
			if got, r, err := ops.Run(s, l); err != api.OK || len(r) != 0 || !same(got, s) {
				t.Errorf("%s: Run of nothing: %+v, %+v, %d", name, got, r, err)
			}
		}
	}
}

// Example 1.
func TestExample(t *testing.T) {
	s, r, err := ops.Apply(fs.New(), api.Op{Kind: 9, Path: "/x", N: 9})
	if err != api.OK || !sameReply(r, api.Reply{Err: 101}) || !same(s, fs.New()) {
		t.Errorf("%+v, %+v, %d", s, r, err)
	}
}

// somePaths are few, so that ops of chance meet.
const somePaths = "/ /a /b /c /a/b /a/b/c /b/a /b/a/c //a//b/ no /a/b/c/d /a/b/c/d/e/f/g/h/i"

// chanceOp is an op of any kind that may be.
func chanceOp(chance *rand.Rand) api.Op {
	paths := strings.Fields(somePaths)
	numbers := []int{math.MinInt, -1, 0, 0, 1, 31, 32, 33, 100, 2400, 2432, 2433, math.MaxInt}
	number := func() int { return numbers[chance.Intn(len(numbers))] }
	path := func() string { return paths[chance.Intn(len(paths))] }
	return api.Op{Kind: 1 + chance.Intn(12), Path: path(), To: path(), Off: number(), N: number(), Data: []byte(text(chance.Intn(70)))}
}

// P11.2 and P11.4: scripts of chance do what fs does, and Run what Apply does, one after another; ops that went as octets, too.
func TestScripts(t *testing.T) {
	chance := rand.New(rand.NewSource(3))
	for range 150 {
		s := fs.New()
		var list []api.Op
		var replies []api.Reply
		for range chance.Intn(60) {
			o := chanceOp(chance)
			_, want := byFS(s, o)
			s = holdApply(t, s, o)
			b, _ := ops.Encode(o)
			o, _ = ops.Decode(b)
			list, replies = append(list, o), append(replies, want)
		}
		end, got, err := ops.Run(fs.New(), list)
		if err != api.OK || !same(end, s) || !slices.EqualFunc(got, replies, sameReply) {
			t.Fatalf("Run of %+v: %+v, %+v, %d, not %+v, %+v", list, end, got, err, s, replies)
		}
	}
}

// P1: states and ops of chance bring no panic, and Apply tells what the document says of both.
func TestAnything(t *testing.T) {
	chance := rand.New(rand.NewSource(4))
	numbers := []int{math.MinInt, -1, 0, 1, 1, 2, 2, 3, 4, 13, 128, math.MaxInt32, math.MaxInt}
	number := func() int { return numbers[chance.Intn(len(numbers))] }
	some := []string{"", "a", "b", "/", "/a", "\xff", strings.Repeat("/", 256)}
	word := func() string { return some[chance.Intn(len(some))] }
	for range 20000 {
		s := fs.State{Next: number()}
		for i := range chance.Intn(4) {
			n := fs.Node{Ino: i + 1, Dir: chance.Intn(2) == 0, Links: chance.Intn(2)}
			for range chance.Intn(3) {
				n.Entries = append(n.Entries, dir.Entry{Name: word(), Ino: number()})
			}
			s.Nodes = append(s.Nodes, n)
		}
		o := api.Op{Kind: chance.Intn(14), Path: word(), To: word(), Off: number(), N: number(), Data: make([]byte, chance.Intn(5000))}
		want := fs.Check(s)
		if want == api.OK {
			want = ops.Check(o)
		}
		if want == api.OK {
			holdApply(t, s, o)
			continue
		}
		if got, r, err := ops.Apply(s, o); err != want || !isNoState(got) || !isNoReply(r) {
			t.Fatalf("of %+v %+v tells %+v, %+v, %d, not %d", s, o, got, r, err, want)
		}
	}
}
