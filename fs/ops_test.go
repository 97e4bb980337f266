package fs_test

import (
	"bytes"
	"fmt"
	"math"
	"math/rand"
	"slices"
	"strings"
	"testing"

	"undercroft/api"
	"undercroft/dir"
	"undercroft/file"
	"undercroft/fs"
)

// The faces keep the signatures of the chapter.
var (
	_ func() fs.State                                                = fs.New
	_ func(fs.State) api.Errno                                       = fs.Check
	_ func(fs.State, string) (int, api.Errno)                        = fs.Find
	_ func(fs.State, string) (fs.State, api.Errno)                   = fs.Create
	_ func(fs.State, string) (fs.State, api.Errno)                   = fs.Mkdir
	_ func(fs.State, string) (fs.State, api.Errno)                   = fs.Unlink
	_ func(fs.State, string) (fs.State, api.Errno)                   = fs.Rmdir
	_ func(fs.State, string, string) (fs.State, api.Errno)           = fs.Rename
	_ func(fs.State, string, string) (fs.State, api.Errno)           = fs.Link
	_ func(fs.State, string, int, []byte) (fs.State, int, api.Errno) = fs.Write
	_ func(fs.State, string, int) (fs.State, api.Errno)              = fs.Truncate
	_ func(fs.State, string, int, int) ([]byte, api.Errno)           = fs.Read
	_ func(fs.State, string) ([]string, api.Errno)                   = fs.List
	_ func(fs.State, string) (int, bool, int, int, api.Errno)        = fs.Stat
	_                                                                = fs.Node{Ino: 0, Dir: false, Links: 0, Entries: []dir.Entry(nil), File: file.File{}}
	_                                                                = fs.State{Nodes: []fs.Node(nil), Next: 0}
)

// wrongPaths holds what is no path, and Split's error.
func wrongPaths() map[string]api.Errno {
	return map[string]api.Errno{
		"": api.ErrName, "a": api.ErrName, "a/b": api.ErrName, "/.": api.ErrName, "/a/..": api.ErrName, "/a\x00": api.ErrName, "/" + strings.Repeat("a", 17): api.ErrName, "\xff/": api.ErrName,
		strings.Repeat("/a", 9): api.ErrLong, strings.Repeat("/", 129): api.ErrLong, strings.Repeat("x", 1<<16): api.ErrLong,
	}
}

// tells holds what a call tells to an error.
func tells(t *testing.T, s fs.State, o api.Op, want api.Errno) {
	t.Helper()
	if got := call(s, o); got.Err != want || want != api.OK && !sameAnswer(got, refused(want)) {
		t.Errorf("%+v tells %+v, want %d", o, got, want)
	}
	// The model agrees, so that the other tests may lean on it.
	if got := modelOf(s).do(o); got.Err != want {
		t.Errorf("the model tells %d of %+v, want %d", got.Err, o, want)
	}
}

// P10.1 to P10.5 and P4: Split's error goes ahead of all but Check's, p's ahead of to's, with nothing beside it.
func TestSplitFirst(t *testing.T) {
	s := base(t)
	for p, want := range wrongPaths() {
		for kind := find; kind <= stat; kind++ {
			tells(t, s, api.Op{Kind: kind, Path: p, To: "/f", Off: -1, N: -1}, want)
			tells(t, s, api.Op{Kind: kind, Path: p, To: "/", Off: -1, N: -1}, want)
		}
		for _, kind := range []int{rename, link} {
			for _, first := range []string{"/", "/no", "/f", "/a", "/f/x", "/no/x"} {
				tells(t, s, api.Op{Kind: kind, Path: first, To: p}, want)
			}
			for other, otherWant := range wrongPaths() {
				tells(t, s, api.Op{Kind: kind, Path: other, To: p}, otherWant)
			}
		}
	}
}

// P10.1: Find goes name by name.
func TestFind(t *testing.T) {
	s := base(t)
	for p, want := range map[string]int{"/": 1, "//": 1, "/a": 2, "/a/": 2, "//a//b": 3, "/f": 4, "/a/g": 4, "/a/b/i": 4, "/a/b/h/": 5, "/c": 6, "/c/j": 7} {
		if ino, err := fs.Find(s, p); ino != want || err != api.OK {
			t.Errorf("Find(%q) = %d, %d, want %d", p, ino, err, want)
		}
	}
	for p, want := range map[string]api.Errno{
		"/no": api.ErrNoEnt, "/A": api.ErrNoEnt, "/ab": api.ErrNoEnt, "/a/no": api.ErrNoEnt, "/a/f": api.ErrNoEnt, "/no/f": api.ErrNoEnt, "/no/no/no": api.ErrNoEnt, "/a/b/no/no": api.ErrNoEnt,
		"/f/x": api.ErrNotDir, "/f/f": api.ErrNotDir, "/f/no/no": api.ErrNotDir, "/a/g/x": api.ErrNotDir, "/a/b/h/h/h": api.ErrNotDir,
	} {
		tells(t, s, api.Op{Kind: find, Path: p}, want)
	}
}

// P10.2: Create and Mkdir put a new node with the number Next.
func TestMake(t *testing.T) {
	s := base(t)
	for p, in := range map[string]int{"/z": atRoot, "/A": atRoot, "/a/c": atA, "//a//b//z/": atB, "/c/j2": atC} {
		for _, isDir := range []bool{false, true} {
			want := with(s, func(s *fs.State) {
				names := strings.Split(strings.TrimRight(p, "/"), "/")
				entries, _ := dir.Add(s.Nodes[in].Entries, dir.Entry{Name: names[len(names)-1], Ino: 8})
				s.Nodes[in].Entries = entries
				s.Nodes = append(s.Nodes, fs.Node{Ino: 8, Dir: isDir, Links: 1})
				s.Next = 9
			})
			got, err := fs.Create(s, p)
			if isDir {
				got, err = fs.Mkdir(s, p)
			}
			if !same(got, want) || err != api.OK {
				t.Errorf("%q, %t: %+v, %d, want %+v", p, isDir, got, err, want)
			}
		}
	}
}

// P10.2 and P4: Create and Mkdir are refused, by the first error of the chapter.
func TestMakeRefuses(t *testing.T) {
	s := base(t)
	none := made(t, crowd()...) // 128 nodes: /x is full, /y has 61 entries, /z none.
	last := with(s, func(s *fs.State) { s.Next = lastNext })
	full := made(t, join([]string{"/x/"}, filled("/x", mostEntries), []string{"/g"})...)
	fullRoot := made(t, filled("", mostEntries)...)
	lastFull := with(full, func(s *fs.State) { s.Next = lastNext })
	for _, c := range []struct {
		s    fs.State
		p    string
		want api.Errno
	}{
		{s, "/", api.ErrExist}, {s, "//", api.ErrExist}, {none, "/", api.ErrExist}, {last, "/", api.ErrExist}, {fullRoot, "/", api.ErrExist},
		{s, "/no/x", api.ErrNoEnt}, {s, "/a/no/x", api.ErrNoEnt}, {s, "/f/no/x", api.ErrNotDir}, {none, "/no/x", api.ErrNoEnt}, {last, "/no/x", api.ErrNoEnt}, {fullRoot, "/no/x", api.ErrNoEnt},
		{s, "/f/x", api.ErrNotDir}, {s, "/a/b/h/x", api.ErrNotDir}, {last, "/f/x", api.ErrNotDir}, {none, "/x/n100/x", api.ErrNotDir}, {fullRoot, "/n100/x", api.ErrNotDir},
		{s, "/a", api.ErrExist}, {s, "/f", api.ErrExist}, {s, "/a/b/", api.ErrExist}, {s, "/a/g", api.ErrExist}, {none, "/x", api.ErrExist}, {none, "/x/n100", api.ErrExist}, {last, "/f", api.ErrExist}, {fullRoot, "/n100", api.ErrExist}, {full, "/x/n162", api.ErrExist},
		{none, "/new", api.ErrNoSpace}, {none, "/x/new", api.ErrNoSpace}, {none, "/z/new", api.ErrNoSpace}, {last, "/new", api.ErrNoSpace}, {last, "/a/new", api.ErrNoSpace}, {lastFull, "/x/new", api.ErrNoSpace},
		{full, "/x/new", api.ErrFull}, {full, "/x/a", api.ErrFull}, {fullRoot, "/new", api.ErrFull},
		{full, "/new", api.OK}, {last, "/no", api.ErrNoSpace},
	} {
		tells(t, c.s, api.Op{Kind: create, Path: c.p}, c.want)
		tells(t, c.s, api.Op{Kind: mkdir, Path: c.p}, c.want)
	}
}

// P10.2: the edges of 128 nodes, of 63 entries and of the last number.
func TestMakeToTheEdge(t *testing.T) {
	for _, kind := range []int{create, mkdir} {
		s := made(t, crowd()[:mostNodes-2]...)
		m := modelOf(s)
		s = m.check(t, s, api.Op{Kind: kind, Path: "/z/one"})
		if len(s.Nodes) != mostNodes {
			t.Fatalf("%d nodes", len(s.Nodes))
		}
		tells(t, s, api.Op{Kind: kind, Path: "/z/two"}, api.ErrNoSpace)
		// With one gone there is room again, and its number does not come back.
		s = m.check(t, s, api.Op{Kind: unlink, Path: "/x/n100"})
		s = m.check(t, s, api.Op{Kind: kind, Path: "/z/two"})
		if ino, _ := fs.Find(s, "/z/two"); ino != mostNodes+1 {
			t.Errorf("the number is %d", ino)
		}
		s = made(t, filled("", mostEntries-1)...)
		s = modelOf(s).check(t, s, api.Op{Kind: kind, Path: "/one"})
		tells(t, s, api.Op{Kind: kind, Path: "/two"}, api.ErrFull)
		s = with(base(t), func(s *fs.State) { s.Next = lastNext - 1 })
		s = modelOf(s).check(t, s, api.Op{Kind: kind, Path: "/one"})
		if ino, _ := fs.Find(s, "/one"); ino != lastNext-1 || s.Next != lastNext {
			t.Errorf("the number is %d, the next one %d", ino, s.Next)
		}
		tells(t, s, api.Op{Kind: kind, Path: "/two"}, api.ErrNoSpace)
		// At the depth of 8 there is room, and below it no path.
		s = made(t, chained(7)...)
		s = modelOf(s).check(t, s, api.Op{Kind: kind, Path: chain(7) + "/one"})
		tells(t, s, api.Op{Kind: kind, Path: chain(7) + "/one/two"}, api.ErrLong)
	}
}

// P10.3: Unlink takes a name away, and the file with its last one.
func TestUnlink(t *testing.T) {
	s := base(t)
	m := modelOf(s)
	for i, p := range []string{"/a/g", "/f", "/a/b/i"} {
		s = m.check(t, s, api.Op{Kind: unlink, Path: p})
		there := slices.ContainsFunc(s.Nodes, func(n fs.Node) bool { return n.Ino == 4 && n.Links == 2-i })
		if there != (i < 2) {
			t.Errorf("%s: %+v", p, s)
		}
		tells(t, s, api.Op{Kind: unlink, Path: p}, api.ErrNoEnt)
	}
	if s.Next != base(t).Next {
		t.Errorf("Next is %d", s.Next)
	}
	for p, want := range map[string]api.Errno{
		"/": api.ErrIsDir, "//": api.ErrIsDir, "/no": api.ErrNoEnt, "/no/x": api.ErrNoEnt, "/a/b/h/x": api.ErrNotDir, "/a": api.ErrIsDir, "/c/": api.ErrIsDir, "/a/b": api.ErrIsDir,
	} {
		tells(t, s, api.Op{Kind: unlink, Path: p}, want)
	}
	tells(t, fs.New(), api.Op{Kind: unlink, Path: "/"}, api.ErrIsDir)
}

// P10.3: Rmdir takes an empty directory away.
func TestRmdir(t *testing.T) {
	s := base(t)
	for p, want := range map[string]api.Errno{
		"/": api.ErrInval, "///": api.ErrInval, "/no": api.ErrNoEnt, "/no/x": api.ErrNoEnt, "/f/x": api.ErrNotDir, "/f": api.ErrNotDir, "/a/g": api.ErrNotDir, "/a": api.ErrNotEmpty, "/a/b": api.ErrNotEmpty, "/c": api.ErrNotEmpty,
	} {
		tells(t, s, api.Op{Kind: rmdir, Path: p}, want)
	}
	tells(t, fs.New(), api.Op{Kind: rmdir, Path: "/"}, api.ErrInval)
	m := modelOf(s)
	for _, o := range []api.Op{{Kind: unlink, Path: "/c/j"}, {Kind: rmdir, Path: "/c"}, {Kind: unlink, Path: "/a/b/h"}, {Kind: unlink, Path: "/a/b/i"}, {Kind: rmdir, Path: "/a/b/"}} {
		tells(t, s, o, api.OK)
		s = m.check(t, s, o)
	}
	if want := (fs.State{Next: 8, Nodes: []fs.Node{
		{Ino: 1, Dir: true, Entries: []dir.Entry{{Name: "a", Ino: 2}, {Name: "f", Ino: 4}}},
		{Ino: 2, Dir: true, Links: 1, Entries: []dir.Entry{{Name: "g", Ino: 4}}},
		{Ino: 4, Links: 2, File: base(t).Nodes[atF].File},
	}}); !same(s, want) {
		t.Errorf("%+v, want %+v", s, want)
	}
}

// P10.3: Link lets another name stand for a file.
func TestLink(t *testing.T) {
	s := base(t)
	m := modelOf(s)
	s = m.check(t, s, api.Op{Kind: link, Path: "/a/b/h", To: "/z"})
	s = m.check(t, s, api.Op{Kind: link, Path: "/z", To: "/a/a/"})
	if s.Nodes[atH].Links != 3 || s.Next != base(t).Next {
		t.Errorf("%+v", s)
	}
	// What is written by one name is read by the other.
	s = m.check(t, s, api.Op{Kind: write, Path: "/a/a", Off: 3, Data: []byte("all")})
	if b, err := fs.Read(s, "/a/b/h", 0, 9); string(b) != "\x00\x00\x00all" || err != api.OK {
		t.Errorf("%q, %d", b, err)
	}
}

// P10.3 and P4: Link is refused, by the first error of the chapter.
func TestLinkRefuses(t *testing.T) {
	s := base(t)
	links := made(t, join(linked("", mostLinks), []string{"/d/", "/x/", "/f"}, filled("/x", mostEntries))...)
	for _, c := range []struct {
		s     fs.State
		p, to string
		want  api.Errno
	}{
		{s, "/no", "/z", api.ErrNoEnt}, {s, "/f/x", "/z", api.ErrNotDir}, {s, "/no/x", "/", api.ErrNoEnt}, {s, "/f/x", "/f/x", api.ErrNotDir}, {s, "/no", "/f", api.ErrNoEnt}, {s, "/no", "/f/x", api.ErrNoEnt}, {s, "/f/x", "/no/x", api.ErrNotDir},
		{s, "/", "/z", api.ErrIsDir}, {s, "/a", "/z", api.ErrIsDir}, {s, "/a", "/", api.ErrIsDir}, {s, "/", "/", api.ErrIsDir}, {s, "/a", "/no/z", api.ErrIsDir}, {s, "/a", "/f/z", api.ErrIsDir}, {s, "/a", "/a", api.ErrIsDir}, {s, "/a", "/a/z", api.ErrIsDir},
		{s, "/f", "/", api.ErrExist}, {s, "/f", "//", api.ErrExist}, {links, "/n100", "/", api.ErrExist},
		{s, "/f", "/no/z", api.ErrNoEnt}, {s, "/f", "/c/j/x/z", api.ErrNotDir}, {links, "/n100", "/no/z", api.ErrNoEnt},
		{s, "/f", "/f/z", api.ErrNotDir}, {s, "/f", "/c/j/z", api.ErrNotDir}, {links, "/n100", "/f/z", api.ErrNotDir},
		{s, "/f", "/f", api.ErrExist}, {s, "/f", "/a", api.ErrExist}, {s, "/f", "/a/g", api.ErrExist}, {s, "/f", "/c/j", api.ErrExist}, {links, "/n100", "/d", api.ErrExist}, {links, "/n100", "/n101", api.ErrExist}, {links, "/n100", "/x/n100", api.ErrExist}, {links, "/f", "/x/n100", api.ErrExist},
		{links, "/n100", "/z", api.ErrLinks}, {links, "/n115", "/d/z", api.ErrLinks}, {links, "/n115", "/x/z", api.ErrLinks},
		{links, "/f", "/x/z", api.ErrFull}, {links, "/x/n100", "/x/z", api.ErrFull},
		{links, "/f", "/d/z", api.OK}, {links, "/x/n100", "/d/z", api.OK},
	} {
		tells(t, c.s, api.Op{Kind: link, Path: c.p, To: c.to}, c.want)
	}
}

// P10.3: 128 nodes leave room for links, and 15 links for one more.
func TestLinkToTheEdge(t *testing.T) {
	s := made(t, crowd()...)
	tells(t, s, api.Op{Kind: link, Path: "/x/n100", To: "/z/l"}, api.OK)
	s = with(base(t), func(s *fs.State) { s.Next = lastNext })
	tells(t, s, api.Op{Kind: link, Path: "/f", To: "/l"}, api.OK)
	s = made(t, linked("", mostLinks-1)...)
	s = modelOf(s).check(t, s, api.Op{Kind: link, Path: "/n100", To: "/l"})
	tells(t, s, api.Op{Kind: link, Path: "/l", To: "/m"}, api.ErrLinks)
	s = modelOf(s).check(t, s, api.Op{Kind: unlink, Path: "/n107"})
	tells(t, s, api.Op{Kind: link, Path: "/l", To: "/m"}, api.OK)
}

// P10.4: Rename, by cases of the chapter.
func TestRename(t *testing.T) {
	s := made(t, "/a/", "/a/b/", "/a/b/c/", "/e/", "/f:f", "/g=/f", "/h:h", "/a/i", "/e2/")
	for _, c := range []struct {
		p, to string
		gone  string
		want  map[string]int
	}{
		{"/f", "/z", "/f", map[string]int{"/z": 6, "/g": 6}},
		{"/f", "/a/z/", "/f", map[string]int{"/a/z": 6, "/g": 6}},
		{"/a", "/z", "/a", map[string]int{"/z/b/c": 4, "/z/i": 8}},
		{"/a/b", "/e/b", "/a/b", map[string]int{"/e/b/c": 4, "/a/i": 8}},
		{"/a/b/c", "/c", "/a/b/c", map[string]int{"/c": 4, "/a/b": 3}},
		{"/h", "/f", "/h", map[string]int{"/f": 7, "/g": 6}},
		{"/h", "/a/i", "/h", map[string]int{"/a/i": 7, "/f": 6}},
		{"/f", "/h", "/f", map[string]int{"/h": 6, "/g": 6}},
		{"/a", "/e", "/a", map[string]int{"/e/b/c": 4, "/e2": 9}},
		{"/e", "/e2", "/e", map[string]int{"/e2": 5}},
		{"/e", "/a/b/c", "/e", map[string]int{"/a/b/c": 5}},
		{"/a/b", "/a/z", "/a/b", map[string]int{"/a/z/c": 4}},
		{"/f", "/g", "", map[string]int{"/f": 6, "/g": 6}},
		{"/f", "/f/", "", map[string]int{"/f": 6}},
		{"/a", "//a", "", map[string]int{"/a/b/c": 4}},
	} {
		got := modelOf(s).check(t, s, api.Op{Kind: rename, Path: c.p, To: c.to})
		tells(t, s, api.Op{Kind: rename, Path: c.p, To: c.to}, api.OK)
		for p, ino := range c.want {
			if at, err := fs.Find(got, p); at != ino || err != api.OK {
				t.Errorf("%s to %s: %s is %d, %d, want %d", c.p, c.to, p, at, err, ino)
			}
		}
		if c.gone == "" && !same(got, s) {
			t.Errorf("%s to %s changes %+v", c.p, c.to, got)
		}
		if _, err := fs.Find(got, c.gone); c.gone != "" && err != api.ErrNoEnt {
			t.Errorf("%s to %s: %s tells %d", c.p, c.to, c.gone, err)
		}
		if got.Next != s.Next {
			t.Errorf("%s to %s: Next is %d", c.p, c.to, got.Next)
		}
	}
}

// P10.4 and P4: Rename is refused, by the first error of the chapter.
func TestRenameRefuses(t *testing.T) {
	s := made(t, "/a/", "/a/b/", "/a/b/c/", "/e/", "/f:f", "/g=/f", "/a/i")
	for _, c := range []struct {
		p, to string
		want  api.Errno
	}{
		{"/", "/z", api.ErrInval}, {"/a", "/", api.ErrInval}, {"/", "/", api.ErrInval}, {"/no", "/", api.ErrInval}, {"/", "/no/x", api.ErrInval}, {"/", "/f/x", api.ErrInval}, {"/f/x", "//", api.ErrInval},
		{"/no", "/z", api.ErrNoEnt}, {"/f/x", "/z", api.ErrNotDir}, {"/no", "/f/x", api.ErrNoEnt}, {"/f/x", "/no/x", api.ErrNotDir}, {"/no", "/no", api.ErrNoEnt}, {"/no", "/no/x", api.ErrNoEnt}, {"/a/no", "/e", api.ErrNoEnt},
		{"/f", "/no/x", api.ErrNoEnt}, {"/a", "/no/x", api.ErrNoEnt}, {"/f", "/f/x/y", api.ErrNotDir}, {"/a", "/a/no/x", api.ErrNoEnt}, {"/a", "/a/i/x/y", api.ErrNotDir},
		{"/f", "/f/x", api.ErrNotDir}, {"/f", "/g/x", api.ErrNotDir}, {"/a", "/f/x", api.ErrNotDir}, {"/a", "/a/i/x", api.ErrNotDir},
		{"/a", "/a/x", api.ErrInval}, {"/a", "/a/b", api.ErrInval}, {"/a", "/a/i", api.ErrInval}, {"/a", "/a/b/c", api.ErrInval}, {"/a", "/a/b/c/x", api.ErrInval}, {"/e", "/e/x", api.ErrInval}, {"/a/b", "//a//b//c", api.ErrInval},
		{"/f", "/a", api.ErrIsDir}, {"/f", "/e", api.ErrIsDir}, {"/a/i", "/a", api.ErrIsDir}, {"/a/i", "/a/b", api.ErrIsDir},
		{"/a", "/f", api.ErrNotDir}, {"/e", "/a/i", api.ErrNotDir}, {"/a/b/c", "/a/i", api.ErrNotDir},
		{"/e", "/a", api.ErrNotEmpty}, {"/a/b", "/a", api.ErrNotEmpty}, {"/a/b/c", "/a", api.ErrNotEmpty}, {"/a/b/c", "/a/b", api.ErrNotEmpty}, {"/e", "/a/b", api.ErrNotEmpty},
	} {
		tells(t, s, api.Op{Kind: rename, Path: c.p, To: c.to}, c.want)
	}
}

// P10.4: a directory of 63 entries takes no new name, but for one of its own or in the place of another.
func TestRenameFull(t *testing.T) {
	s := made(t, join([]string{"/x/", "/d/", "/d/e/", "/f"}, filled("/x", mostEntries-1), []string{"/x/own/"})...)
	for _, c := range []struct {
		p, to string
		want  api.Errno
	}{
		{"/f", "/x/new", api.ErrFull}, {"/d", "/x/new", api.ErrFull}, {"/d/e", "/x/a", api.ErrFull},
		{"/f", "/x/n100", api.OK}, {"/d", "/x/own", api.OK}, {"/d/e", "/x/own", api.OK},
		{"/x/n100", "/x/new", api.OK}, {"/x/n161", "/x/a", api.OK}, {"/x/own", "/x/new", api.OK}, {"/x/n100", "/x/n101", api.OK}, {"/x/n100", "/x/n100", api.OK},
		{"/x/n100", "/new", api.OK}, {"/x/own", "/d/e", api.OK},
		{"/x/n100", "/x/own", api.ErrIsDir}, {"/x/own", "/x/n100", api.ErrNotDir}, {"/x/own", "/x/own/new", api.ErrInval}, {"/x", "/x/new", api.ErrInval},
	} {
		o := api.Op{Kind: rename, Path: c.p, To: c.to}
		tells(t, s, o, c.want)
		modelOf(s).check(t, s, o)
	}
	// The root as the full one.
	s = made(t, join([]string{"/d/", "/d/f"}, filled("", mostEntries-1))...)
	tells(t, s, api.Op{Kind: rename, Path: "/d/f", To: "/new"}, api.ErrFull)
	tells(t, s, api.Op{Kind: rename, Path: "/n100", To: "/new"}, api.OK)
	tells(t, s, api.Op{Kind: rename, Path: "/d", To: "/new"}, api.OK)
}

// P10.4: nothing that is moved comes to lie deeper than 8 names.
func TestRenameDeep(t *testing.T) {
	for _, leaf := range []string{"/y", "/y/"} {
		for height := range deepest {
			// /e, with so many names below it; /d is a chain of 8.
			parts := join(chained(7), []string{"/e/"})
			at := "/e"
			for i := range height {
				if i == height-1 {
					parts = append(parts, at+leaf)
					break
				}
				at += "/x"
				parts = append(parts, at+"/")
			}
			s := made(t, parts...)
			for depth := 1; depth <= deepest; depth++ {
				want := api.OK
				if depth+height > deepest {
					want = api.ErrLong
				}
				o := api.Op{Kind: rename, Path: "/e", To: chain(depth-1) + "/z"}
				tells(t, s, o, want)
				modelOf(s).check(t, s, o)
			}
		}
	}
}

// P10.4: ErrLong comes behind what is wrong with to, and it counts each name of a file that has several.
func TestRenameDeepOrder(t *testing.T) {
	parts := join(chained(7), []string{"/e/", "/e/f:f", "/g=/e/f", "/h"})
	seven := chain(7)
	s := made(t, append(parts, seven+"/empty/", seven+"/file")...)
	tells(t, s, api.Op{Kind: rename, Path: "/e", To: seven + "/new"}, api.ErrLong)
	tells(t, s, api.Op{Kind: rename, Path: "/e", To: seven + "/empty"}, api.ErrLong)
	tells(t, s, api.Op{Kind: rename, Path: "/e", To: seven + "/file"}, api.ErrNotDir)
	tells(t, s, api.Op{Kind: rename, Path: "/e", To: chain(7)}, api.ErrNotEmpty)
	tells(t, s, api.Op{Kind: rename, Path: "/h", To: seven + "/new"}, api.OK)
	tells(t, s, api.Op{Kind: rename, Path: "/g", To: seven + "/new"}, api.OK)
	tells(t, s, api.Op{Kind: rename, Path: "/h", To: seven + "/empty"}, api.ErrIsDir)
	// Renamed where it is, a chain of 8 stays one.
	tells(t, s, api.Op{Kind: rename, Path: "/d", To: "/z"}, api.OK)
	tells(t, s, api.Op{Kind: rename, Path: "/d", To: "/e/z"}, api.ErrLong)
	tells(t, s, api.Op{Kind: rename, Path: "/d/d", To: "/e/z"}, api.OK)
	full := made(t, append(parts, filled(seven, mostEntries)...)...)
	tells(t, full, api.Op{Kind: rename, Path: "/e", To: seven + "/new"}, api.ErrFull)
	tells(t, full, api.Op{Kind: rename, Path: "/h", To: seven + "/new"}, api.ErrFull)
}

// P10.5: Write, Truncate and Read do what file does, to a file.
func TestOctets(t *testing.T) {
	s := base(t)
	offs := []int{math.MinInt, -1, 0, 1, 31, 32, 33, 40, 99, 100, 101, 2400, largest - 1, largest, largest + 1, math.MaxInt - 1, math.MaxInt}
	data := [][]byte{nil, {}, {0}, []byte("x"), []byte("some more octets"), make([]byte, 64), bytes.Repeat([]byte("y"), 100), bytes.Repeat([]byte("z"), largest), bytes.Repeat([]byte("z"), largest+1)}
	for _, p := range []string{"/f", "/a/g", "/a/b/h", "/c/j", "/", "/a", "/no", "/f/x", "/no/x", "bad"} {
		for _, off := range offs {
			for _, d := range data {
				modelOf(s).check(t, s, api.Op{Kind: write, Path: p, Off: off, Data: d})
			}
			for _, n := range offs {
				modelOf(s).check(t, s, api.Op{Kind: read, Path: p, Off: off, N: n})
			}
			modelOf(s).check(t, s, api.Op{Kind: truncate, Path: p, Off: off})
		}
	}
	for _, off := range []int{math.MinInt, -1, 0, largest + 1, math.MaxInt} {
		for _, kind := range []int{write, truncate, read} {
			tells(t, s, api.Op{Kind: kind, Path: "/a", Off: off, N: off, Data: data[8]}, api.ErrIsDir)
			tells(t, s, api.Op{Kind: kind, Path: "/", Off: off, N: off, Data: data[8]}, api.ErrIsDir)
			tells(t, s, api.Op{Kind: kind, Path: "/no", Off: off, N: off, Data: data[8]}, api.ErrNoEnt)
			tells(t, s, api.Op{Kind: kind, Path: "/f/x", Off: off, N: off, Data: data[8]}, api.ErrNotDir)
		}
	}
	tells(t, s, api.Op{Kind: write, Path: "/f", Off: -1, Data: data[8]}, api.ErrRange)
	tells(t, s, api.Op{Kind: write, Path: "/f", Off: 0, Data: data[8]}, api.ErrBig)
	tells(t, s, api.Op{Kind: truncate, Path: "/f", Off: -1}, api.ErrRange)
	tells(t, s, api.Op{Kind: truncate, Path: "/f", Off: largest + 1}, api.ErrBig)
	tells(t, s, api.Op{Kind: read, Path: "/f", Off: -1}, api.ErrRange)
	tells(t, s, api.Op{Kind: read, Path: "/f", N: -1}, api.ErrRange)
}

// P10.5: Write tells how many octets, and no other node changes by it.
func TestWrite(t *testing.T) {
	s := base(t)
	got, n, err := fs.Write(s, "/a/g", 5, []byte("O"))
	want := with(s, func(s *fs.State) { s.Nodes[atF].File, _ = file.Of([]byte("some Octets")) })
	if !same(got, want) || n != 1 || err != api.OK {
		t.Errorf("Write: %+v, %d, %d", got, n, err)
	}
	got, n, err = fs.Write(s, "/f", largest+5, nil)
	if !same(got, s) || n != 0 || err != api.OK {
		t.Errorf("Write of nothing: %+v, %d, %d", got, n, err)
	}
	got, err = fs.Truncate(s, "/a/b/i", 4)
	want = with(s, func(s *fs.State) { s.Nodes[atF].File, _ = file.Of([]byte("some")) })
	if !same(got, want) || err != api.OK {
		t.Errorf("Truncate: %+v, %d", got, err)
	}
}

// P10.5: List and Stat.
func TestListAndStat(t *testing.T) {
	s := base(t)
	for p, want := range map[string]string{"/": "a c f", "/a/": "b g", "/a//b": "h i", "/c": "j"} {
		if l, err := fs.List(s, p); strings.Join(l, " ") != want || err != api.OK {
			t.Errorf("List(%q) = %q, %d", p, l, err)
		}
	}
	if l, err := fs.List(fs.New(), "/"); len(l) != 0 || err != api.OK {
		t.Errorf("List of nothing = %q, %d", l, err)
	}
	for p, want := range map[string]string{
		"/": "1 true 3 0 0", "/a": "2 true 2 1 0", "/a/b": "3 true 2 1 0", "/f": "4 false 11 3 0", "/a/b/i": "4 false 11 3 0", "/a/b/h": "5 false 0 1 0", "/c/": "6 true 1 1 0", "/c/j": "7 false 100 1 0",
		"/no": "0 false 0 0 101", "/f/x": "0 false 0 0 103", "x": "0 false 0 0 106",
	} {
		ino, isDir, size, links, err := fs.Stat(s, p)
		if got := fmt.Sprint(ino, isDir, size, links, int(err)); got != want {
			t.Errorf("Stat(%q) = %s, want %s", p, got, want)
		}
	}
	for p, want := range map[string]api.Errno{"/f": api.ErrNotDir, "/a/g": api.ErrNotDir, "/f/x": api.ErrNotDir, "/no": api.ErrNoEnt, "/a/b/h/": api.ErrNotDir} {
		tells(t, s, api.Op{Kind: list, Path: p}, want)
	}
	full := made(t, filled("", mostEntries)...)
	if l, err := fs.List(full, "/"); len(l) != mostEntries || !slices.IsSorted(l) || err != api.OK {
		t.Errorf("List of 63 = %q, %d", l, err)
	}
}

// P10.1 to P10.6: on small file systems each op, with each path and each pair of paths, is that of the model.
func TestAllPairs(t *testing.T) {
	paths := []string{""}
	for from := 0; len(paths) < 1+3+9+27; from++ {
		for _, name := range []string{"a", "b", "f"} {
			paths = append(paths, paths[from]+"/"+name)
		}
	}
	paths[0] = "/"
	for _, parts := range [][]string{
		{},
		{"/f"},
		{"/a/", "/b/"},
		{"/a/", "/a/b/", "/a/b/f", "/f", "/b/"},
		{"/f", "/a/", "/a/f=/f", "/a/a=/f", "/b/", "/b/a/"},
		{"/a/", "/a/a/", "/a/a/a/", "/b/", "/b/b/", "/b/b/f", "/b/f=/b/b/f"},
	} {
		s := made(t, parts...)
		for _, p := range paths {
			for kind := find; kind <= stat; kind++ {
				if kind != rename && kind != link {
					modelOf(s).check(t, s, api.Op{Kind: kind, Path: p, Off: 3, N: 9, Data: []byte("data")})
					continue
				}
				for _, to := range paths {
					modelOf(s).check(t, s, api.Op{Kind: kind, Path: p, To: to})
				}
			}
		}
	}
}

// some is an op by chance, on paths that are there and on others near them.
func some(chance *rand.Rand, m *model) api.Op {
	one := func(fresh int) string {
		near := append(m.paths(), "", "", "/no", "bad", "/.")
		p := near[chance.Intn(len(near))]
		if chance.Intn(8) == 0 {
			p = ""
		}
		if chance.Intn(6) < fresh {
			p += "/" + string("abcdefgh"[chance.Intn(8)])
		}
		if p == "" || chance.Intn(20) == 0 {
			p += "/"
		}
		return p
	}
	o := api.Op{Kind: chance.Intn(12), Path: one(2), To: one(4), Off: chance.Intn(120) - 5, N: chance.Intn(200) - 5, Data: bytes.Repeat([]byte{byte(chance.Intn(3))}, chance.Intn(60))}
	if chance.Intn(4) == 0 {
		o.Off = largest - chance.Intn(80)
	}
	return o
}

// P10.1 to P10.7: scripts by chance run beside the model; what others hold stays.
func TestScripts(t *testing.T) {
	told := map[[2]int]int{}
	for seed := range int64(60) {
		chance := rand.New(rand.NewSource(seed))
		s := fs.New()
		if seed%3 == 1 {
			s = made(t, join(chained(6), []string{"/e/", "/e/a/", "/e/a/f", "/f=/e/a/f"})...)
		}
		if seed%3 == 2 {
			s = made(t, join([]string{"/q/"}, linked("/q", mostLinks-2), filled("", mostEntries-1))...)
		}
		m := modelOf(s)
		var held, copies []fs.State
		for range 400 {
			o := some(chance, m)
			held, copies = append(held, s), append(copies, copied(s))
			s = m.check(t, s, o)
			told[[2]int{o.Kind, int(call(held[len(held)-1], o).Err)}]++
		}
		for i := range held {
			if !same(held[i], copies[i]) {
				t.Fatalf("state %d of script %d has changed", i, seed)
			}
		}
	}
	for kind := find; kind <= stat; kind++ {
		if told[[2]int{kind, 0}] < 50 {
			t.Errorf("op %d was done %d times only", kind, told[[2]int{kind, 0}])
		}
	}
	for _, err := range []api.Errno{api.ErrInval, api.ErrIsDir, api.ErrNotDir, api.ErrNotEmpty, api.ErrLong, api.ErrNoEnt} {
		if told[[2]int{rename, int(err)}] == 0 {
			t.Errorf("no Rename was refused by %d", err)
		}
	}
}

// Example 1 of the chapter, and example 6 of the whole.
func TestExample(t *testing.T) {
	s, err := fs.Mkdir(fs.New(), "/a")
	if err != api.OK {
		t.Fatal(err)
	}
	if s, err = fs.Create(s, "/a/f"); err != api.OK {
		t.Fatal(err)
	}
	s, n, err := fs.Write(s, "/a/f", 0, []byte("hi"))
	if n != 2 || err != api.OK {
		t.Fatal(n, err)
	}
	if b, err := fs.Read(s, "/a/f", 0, 100); string(b) != "hi" || err != api.OK {
		t.Errorf("Read: %q, %d", b, err)
	}
	tells(t, s, api.Op{Kind: unlink, Path: "/a"}, api.ErrIsDir)
	tells(t, s, api.Op{Kind: rmdir, Path: "/a"}, api.ErrNotEmpty)
}
