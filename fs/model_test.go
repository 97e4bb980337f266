package fs_test

import (
	"cmp"
	"maps"
	"reflect"
	"slices"
	"strings"
	"testing"

	"undercroft/api"
	"undercroft/dir"
	"undercroft/file"
	"undercroft/fs"
	"undercroft/path"
)

const (
	mostNodes   = 128
	mostEntries = 63
	mostLinks   = 16
	deepest     = 8
	largest     = 2432
	lastNext    = 1<<31 - 1
)

// The ops, by api.Op's kinds; find has none there.
const (
	find = iota
	create
	mkdir
	unlink
	rmdir
	rename
	link
	write
	truncate
	read
	list
	stat
)

// thing is a file, or a directory by its names; things hold each other, and nothing counts links.
type thing struct {
	ino   int
	names map[string]*thing
	text  []byte
}

func (x *thing) isDir() bool {
	return x.names != nil
}

// model is a file system of things.
type model struct {
	top  *thing
	next int
}

func newModel() *model {
	return &model{top: &thing{ino: 1, names: map[string]*thing{}}, next: 2}
}

// ways calls f for all that lies below x, with the names that lead there.
func (x *thing) ways(names []string, f func(names []string, x *thing)) {
	for _, name := range slices.Sorted(maps.Keys(x.names)) {
		way := append(slices.Clone(names), name)
		f(way, x.names[name])
		x.names[name].ways(way, f)
	}
}

// paths holds all paths, but for the root.
func (m *model) paths() []string {
	var all []string
	m.top.ways(nil, func(names []string, _ *thing) { all = append(all, "/"+strings.Join(names, "/")) })
	return all
}

// links tells how many entries name each thing; only what is reached counts.
func (m *model) links() map[*thing]int {
	all := map[*thing]int{m.top: 0}
	m.top.ways(nil, func(_ []string, x *thing) { all[x]++ })
	return all
}

// state is the model as the chapter lays it.
func (m *model) state() fs.State {
	s := fs.State{Next: m.next}
	for x, links := range m.links() {
		n := fs.Node{Ino: x.ino, Dir: x.isDir(), Links: links}
		for _, name := range slices.Sorted(maps.Keys(x.names)) {
			n.Entries = append(n.Entries, dir.Entry{Name: name, Ino: x.names[name].ino})
		}
		if !x.isDir() {
			n.File, _ = file.Of(x.text)
		}
		s.Nodes = append(s.Nodes, n)
	}
	slices.SortFunc(s.Nodes, func(a, b fs.Node) int { return cmp.Compare(a.Ino, b.Ino) })
	return s
}

// modelOf reads a state that may be.
func modelOf(s fs.State) *model {
	things := map[int]*thing{}
	for _, n := range s.Nodes {
		x := &thing{ino: n.Ino}
		if n.Dir {
			x.names = map[string]*thing{}
		} else {
			x.text, _ = file.Read(n.File, 0, n.File.Size)
		}
		things[n.Ino] = x
	}
	for _, n := range s.Nodes {
		for _, e := range n.Entries {
			things[n.Ino].names[e.Name] = things[e.Ino]
		}
	}
	return &model{top: things[1], next: s.Next}
}

// answer is all that a call may tell.
type answer struct {
	State  fs.State
	Ino    int
	Dir    bool
	Size   int
	Links  int
	N      int
	Octets []byte
	Names  []string
	Err    api.Errno
}

func refused(err api.Errno) answer {
	return answer{Err: err}
}

// at finds what names lead to.
func (m *model) at(names []string) (*thing, api.Errno) {
	x := m.top
	for _, name := range names {
		if !x.isDir() {
			return nil, api.ErrNotDir
		}
		if x.names[name] == nil {
			return nil, api.ErrNoEnt
		}
		x = x.names[name]
	}
	return x, api.OK
}

// parent finds the directory that the last of names is to stand in: Find's error of it, and ErrNotDir.
func (m *model) parent(names []string) (*thing, string, api.Errno) {
	x, err := m.at(names[:len(names)-1])
	if err != api.OK {
		return nil, "", err
	}
	if !x.isDir() {
		return nil, "", api.ErrNotDir
	}
	return x, names[len(names)-1], api.OK
}

// do tells what the chapter's words tell of an op on a state that may be, and does it.
func (m *model) do(o api.Op) answer {
	p, err := path.Split(o.Path)
	if err != api.OK {
		return refused(err)
	}
	var to []string
	if o.Kind == rename || o.Kind == link {
		if to, err = path.Split(o.To); err != api.OK {
			return refused(err)
		}
	}
	switch o.Kind {
	case create, mkdir:
		err = m.make(p, o.Kind == mkdir)
	case unlink:
		err = m.unlink(p)
	case rmdir:
		err = m.rmdir(p)
	case rename:
		err = m.rename(p, to)
	case link:
		err = m.link(p, to)
	case write, truncate:
		err = m.rewrite(p, o)
	default:
		return m.look(p, o)
	}
	if err != api.OK {
		return refused(err)
	}
	a := answer{State: m.state()}
	if o.Kind == write {
		a.N = len(o.Data)
	}
	return a
}

func (m *model) make(p []string, isDir bool) api.Errno {
	if len(p) == 0 {
		return api.ErrExist
	}
	in, name, err := m.parent(p)
	switch {
	case err != api.OK:
		return err
	case in.names[name] != nil:
		return api.ErrExist
	case len(m.links()) == mostNodes || m.next == lastNext:
		return api.ErrNoSpace
	case len(in.names) == mostEntries:
		return api.ErrFull
	}
	x := &thing{ino: m.next}
	if isDir {
		x.names = map[string]*thing{}
	}
	in.names[name] = x
	m.next++
	return api.OK
}

func (m *model) unlink(p []string) api.Errno {
	if len(p) == 0 {
		return api.ErrIsDir
	}
	x, err := m.at(p)
	if err != api.OK {
		return err
	}
	if x.isDir() {
		return api.ErrIsDir
	}
	in, name, _ := m.parent(p)
	delete(in.names, name)
	return api.OK
}

func (m *model) rmdir(p []string) api.Errno {
	if len(p) == 0 {
		return api.ErrInval
	}
	x, err := m.at(p)
	switch {
	case err != api.OK:
		return err
	case !x.isDir():
		return api.ErrNotDir
	case len(x.names) > 0:
		return api.ErrNotEmpty
	}
	in, name, _ := m.parent(p)
	delete(in.names, name)
	return api.OK
}

func (m *model) link(p, to []string) api.Errno {
	x, err := m.at(p)
	switch {
	case err != api.OK:
		return err
	case x.isDir():
		return api.ErrIsDir
	case len(to) == 0:
		return api.ErrExist
	}
	in, name, err := m.parent(to)
	switch {
	case err != api.OK:
		return err
	case in.names[name] != nil:
		return api.ErrExist
	case m.links()[x] == mostLinks:
		return api.ErrLinks
	case len(in.names) == mostEntries:
		return api.ErrFull
	}
	in.names[name] = x
	return api.OK
}

func (m *model) rename(p, to []string) api.Errno {
	if len(p) == 0 || len(to) == 0 {
		return api.ErrInval
	}
	x, err := m.at(p)
	if err != api.OK {
		return err
	}
	in, name, err := m.parent(to)
	if err != api.OK {
		return err
	}
	within, _ := path.Within("/"+strings.Join(p, "/"), "/"+strings.Join(to, "/"))
	if x.isDir() && within && !slices.Equal(p, to) {
		return api.ErrInval
	}
	old := in.names[name]
	if old == x {
		return api.OK
	}
	from, was, _ := m.parent(p)
	if err := mayTake(x, old, from, in); err != api.OK {
		return err
	}
	tooDeep := false
	x.ways(to, func(names []string, _ *thing) { tooDeep = tooDeep || len(names) > deepest })
	if tooDeep {
		return api.ErrLong
	}
	delete(from.names, was)
	in.names[name] = x
	return api.OK
}

// mayTake tells whether x, of the directory from, may stand in the place of old in the directory in.
func mayTake(x, old, from, in *thing) api.Errno {
	switch {
	case old == nil && len(in.names) == mostEntries && in != from:
		return api.ErrFull
	case old == nil:
		return api.OK
	case old.isDir() && !x.isDir():
		return api.ErrIsDir
	case !old.isDir() && x.isDir():
		return api.ErrNotDir
	case len(old.names) > 0:
		return api.ErrNotEmpty
	}
	return api.OK
}

func (m *model) rewrite(p []string, o api.Op) api.Errno {
	x, err := m.at(p)
	if err != api.OK {
		return err
	}
	if x.isDir() {
		return api.ErrIsDir
	}
	f, _ := file.Of(x.text)
	if o.Kind == write {
		f, err = file.Write(f, o.Off, o.Data)
	} else {
		f, err = file.Truncate(f, o.Off)
	}
	if err == api.OK {
		x.text, _ = file.Read(f, 0, largest)
	}
	return err
}

func (m *model) look(p []string, o api.Op) answer {
	x, err := m.at(p)
	switch {
	case err != api.OK:
		return refused(err)
	case o.Kind == find:
		return answer{Ino: x.ino}
	case o.Kind == stat:
		return answer{Ino: x.ino, Dir: x.isDir(), Size: len(x.text) + len(x.names), Links: m.links()[x]}
	case o.Kind == list && !x.isDir():
		return refused(api.ErrNotDir)
	case o.Kind == list:
		return answer{Names: slices.Sorted(maps.Keys(x.names))}
	case x.isDir():
		return refused(api.ErrIsDir)
	case o.Off < 0 || o.N < 0:
		return refused(api.ErrRange)
	case o.Off >= len(x.text):
		return answer{}
	}
	return answer{Octets: x.text[o.Off:][:min(o.N, len(x.text)-o.Off)]}
}

// call asks the program.
func call(s fs.State, o api.Op) answer {
	var a answer
	switch o.Kind {
	case find:
		a.Ino, a.Err = fs.Find(s, o.Path)
	case create:
		a.State, a.Err = fs.Create(s, o.Path)
	case mkdir:
		a.State, a.Err = fs.Mkdir(s, o.Path)
	case unlink:
		a.State, a.Err = fs.Unlink(s, o.Path)
	case rmdir:
		a.State, a.Err = fs.Rmdir(s, o.Path)
	case rename:
		a.State, a.Err = fs.Rename(s, o.Path, o.To)
	case link:
		a.State, a.Err = fs.Link(s, o.Path, o.To)
	case write:
		a.State, a.N, a.Err = fs.Write(s, o.Path, o.Off, o.Data)
	case truncate:
		a.State, a.Err = fs.Truncate(s, o.Path, o.Off)
	case read:
		a.Octets, a.Err = fs.Read(s, o.Path, o.Off, o.N)
	case list:
		a.Names, a.Err = fs.List(s, o.Path)
	case stat:
		a.Ino, a.Dir, a.Size, a.Links, a.Err = fs.Stat(s, o.Path)
	}
	return a
}

// changes tells whether a kind of op answers a state.
func changes(kind int) bool {
	return create <= kind && kind <= truncate
}

// copied is s in memory of its own, with no list that is empty and not nil.
func copied(s fs.State) fs.State {
	out := fs.State{Next: s.Next}
	for _, n := range s.Nodes {
		n.Entries = append([]dir.Entry(nil), n.Entries...)
		blocks := n.File.Blocks
		n.File.Blocks = nil
		for _, b := range blocks {
			n.File.Blocks = append(n.File.Blocks, file.Block{Index: b.Index, Data: append([]byte(nil), b.Data...)})
		}
		out.Nodes = append(out.Nodes, n)
	}
	return out
}

// same tells whether two states are one, nil and empty lists being one.
func same(a, b fs.State) bool {
	return reflect.DeepEqual(copied(a), copied(b))
}

func sameAnswer(a, b answer) bool {
	plain := func(a answer) answer {
		a.State = copied(a.State)
		a.Octets = append([]byte(nil), a.Octets...)
		a.Names = append([]string(nil), a.Names...)
		return a
	}
	return reflect.DeepEqual(plain(a), plain(b))
}

// check holds an op to the words of the chapter; s is what m is, and m goes on where the op does.
func (m *model) check(t *testing.T, s fs.State, o api.Op) fs.State {
	t.Helper()
	before := copied(s)
	got := call(s, o)
	want := m.do(o)
	if !sameAnswer(got, want) {
		t.Fatalf("of\n%+v\n%+v tells\n%+v, not\n%+v", before, o, got, want)
	}
	if !same(s, before) {
		t.Fatalf("%+v changed what was handed in", o)
	}
	if !changes(o.Kind) || got.Err != api.OK {
		return s
	}
	// P10.6.
	if err := fs.Check(got.State); err != api.OK {
		t.Fatalf("of\n%+v\n%+v makes what may not be:\n%+v", before, o, got.State)
	}
	return got.State
}

// made is a file system of these: "/a/" is a directory, "/f" a file, "/g=/f" a link, "/f:text" a file with a text.
func made(t testing.TB, parts ...string) fs.State {
	t.Helper()
	m := newModel()
	for _, part := range parts {
		o := api.Op{Kind: create, Path: part}
		name, text, hasText := strings.Cut(part, ":")
		to, from, isLink := strings.Cut(part, "=")
		switch {
		case hasText:
			o.Path = name
		case isLink:
			o = api.Op{Kind: link, Path: from, To: to}
		case strings.HasSuffix(part, "/"):
			o.Kind = mkdir
		}
		if a := m.do(o); a.Err != api.OK {
			t.Fatalf("%q: %d", part, a.Err)
		}
		if hasText {
			m.do(api.Op{Kind: write, Path: name, Data: []byte(text)})
		}
	}
	return m.state()
}
