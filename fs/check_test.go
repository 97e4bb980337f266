package fs_test

import (
	"bytes"
	"math"
	"math/rand"
	"slices"
	"strconv"
	"strings"
	"testing"

	"undercroft/api"
	"undercroft/dir"
	"undercroft/file"
	"undercroft/fs"
)

// numbered is a name of a fixed length, so that names rise with their numbers.
func numbered(i int) string {
	return "n" + strconv.Itoa(100+i)
}

// chain is a path of n directories, one in the other.
func chain(n int) string {
	return strings.Repeat("/d", n)
}

// chained is the parts that make it.
func chained(n int) []string {
	var parts []string
	for i := range n {
		parts = append(parts, chain(i+1)+"/")
	}
	return parts
}

// filled is the parts of n files in a directory that is there: "" is the root.
func filled(in string, n int) []string {
	var parts []string
	for i := range n {
		parts = append(parts, in+"/"+numbered(i))
	}
	return parts
}

// linked is the parts of n names of one file, in a directory that is there.
func linked(in string, n int) []string {
	parts := []string{in + "/" + numbered(0)}
	for i := 1; i < n; i++ {
		parts = append(parts, in+"/"+numbered(i)+"="+parts[0])
	}
	return parts
}

// crowd is the parts of three directories with files, with 128 nodes in all, the first two of them full.
func crowd() []string {
	parts := []string{"/x/", "/y/", "/z/"}
	parts = append(parts, filled("/x", mostEntries)...)
	return append(parts, filled("/y", mostNodes-4-mostEntries)...)
}

func join(lists ...[]string) []string {
	return slices.Concat(lists...)
}

// base is a file system with some of everything.
func base(t testing.TB) fs.State {
	return made(t, "/a/", "/a/b/", "/f:some octets", "/a/g=/f", "/a/b/h", "/c/", "/a/b/i=/f", "/c/j:"+strings.Repeat("x", 100))
}

// with is s, changed by f.
func with(s fs.State, f func(s *fs.State)) fs.State {
	s = copied(s)
	f(&s)
	return s
}

// The places of base's nodes.
const (
	atRoot = iota
	atA
	atB
	atF
	atH
	atC
	atJ
)

// rightStates holds states that may be, at the edges.
func rightStates(t testing.TB) map[string]fs.State {
	full := made(t, "/f")
	full.Nodes[1].File, _ = file.Of(bytes.Repeat([]byte{7}, largest))
	return map[string]fs.State{
		"root alone":         fs.New(),
		"base":               base(t),
		"highest Next":       with(base(t), func(s *fs.State) { s.Next = lastNext }),
		"root, highest Next": {Nodes: fs.New().Nodes, Next: lastNext},
		"numbers with gaps":  with(made(t, "/f"), func(s *fs.State) { s.Next, s.Nodes[1].Ino, s.Nodes[0].Entries[0].Ino = 78, 77, 77 }),
		"highest number": with(made(t, "/f"), func(s *fs.State) {
			s.Next, s.Nodes[1].Ino, s.Nodes[0].Entries[0].Ino = lastNext, lastNext-1, lastNext-1
		}),
		"lower in higher":  {Nodes: []fs.Node{{Ino: 1, Dir: true, Entries: []dir.Entry{{Name: "a", Ino: 3}}}, {Ino: 2, Links: 1}, {Ino: 3, Dir: true, Links: 1, Entries: []dir.Entry{{Name: "a", Ino: 2}}}}, Next: 4},
		"62 entries":       made(t, filled("", mostEntries-1)...),
		"63 entries":       made(t, filled("", mostEntries)...),
		"63 entries below": made(t, join([]string{"/a/"}, filled("/a", mostEntries))...),
		"127 nodes":        made(t, crowd()[:mostNodes-2]...),
		"128 nodes":        made(t, crowd()...),
		"16 links":         made(t, linked("", mostLinks)...),
		"16 links twice":   made(t, join([]string{"/a/"}, linked("", mostLinks), linked("/a", mostLinks))...),
		"7 directories":    made(t, chained(7)...),
		"8 directories":    made(t, chained(8)...),
		"a file at 8":      made(t, append(chained(7), chain(7)+"/f", chain(7)+"/g")...),
		"a link at 8":      made(t, append(chained(7), "/f", chain(7)+"/f=/f")...),
		"greatest file":    full,
		"empty, not nil":   {Nodes: []fs.Node{{Ino: 1, Dir: true, Entries: []dir.Entry{{Name: "f", Ino: 2}}, File: file.File{Blocks: []file.Block{}}}, {Ino: 2, Links: 1, Entries: []dir.Entry{}, File: file.File{Blocks: []file.Block{}}}}, Next: 3},
	}
}

// wrongNumbers holds states with numbers that may not be.
func wrongNumbers(t testing.TB) map[string]fs.State {
	all := map[string]fs.State{
		"nothing":             {},
		"no nodes":            {Next: 2},
		"no nodes, empty":     {Next: 2, Nodes: []fs.Node{}},
		"no root":             {Next: 3, Nodes: []fs.Node{{Ino: 2, Dir: true}}},
		"no root, linked":     {Next: 3, Nodes: []fs.Node{{Ino: 2, Dir: true, Links: 1, Entries: []dir.Entry{{Name: "a", Ino: 2}}}}},
		"root behind":         with(base(t), func(s *fs.State) { s.Nodes[0], s.Nodes[1] = s.Nodes[1], s.Nodes[0] }),
		"numbers fall":        with(base(t), func(s *fs.State) { s.Nodes[2], s.Nodes[3] = s.Nodes[3], s.Nodes[2] }),
		"numbers fall at end": with(base(t), func(s *fs.State) { s.Nodes[5], s.Nodes[6] = s.Nodes[6], s.Nodes[5] }),
		"root twice":          with(base(t), func(s *fs.State) { s.Nodes = slices.Insert(s.Nodes, 1, s.Nodes[0]) }),
		"node twice":          with(base(t), func(s *fs.State) { s.Nodes = slices.Insert(s.Nodes, 4, s.Nodes[3]) }),
		"last twice":          with(base(t), func(s *fs.State) { s.Nodes = append(s.Nodes, s.Nodes[6]) }),
		"a zero node ahead":   with(base(t), func(s *fs.State) { s.Nodes = slices.Insert(s.Nodes, 0, fs.Node{}) }),
		"a zero node behind":  with(base(t), func(s *fs.State) { s.Nodes = append(s.Nodes, fs.Node{}) }),
		"Next is a number":    with(base(t), func(s *fs.State) { s.Next-- }),
		"129 nodes": with(made(t, crowd()...), func(s *fs.State) {
			s.Nodes = append(s.Nodes, fs.Node{Ino: s.Next, Links: 1})
			s.Nodes[3].Entries = append(s.Nodes[3].Entries, dir.Entry{Name: "one", Ino: s.Next})
			s.Next++
		}),
		"many zero nodes": {Next: 2, Nodes: make([]fs.Node, 1<<16)},
	}
	for _, next := range []int{math.MinInt, -1, 0, 1, 2, 3, 7, lastNext + 1, 1 << 32, 1<<32 + 9, math.MaxInt} {
		all["Next "+strconv.Itoa(next)] = with(base(t), func(s *fs.State) { s.Next = next })
	}
	for _, next := range []int{math.MinInt, -1, 0, 1, lastNext + 1, 1<<32 + 2, math.MaxInt} {
		all["root, Next "+strconv.Itoa(next)] = with(fs.New(), func(s *fs.State) { s.Next = next })
	}
	for _, ino := range []int{math.MinInt, -1, 0, 1, lastNext, lastNext + 1, math.MaxInt} {
		all["number "+strconv.Itoa(ino)] = with(made(t, "/f"), func(s *fs.State) {
			s.Next, s.Nodes[1].Ino, s.Nodes[0].Entries[0].Ino = lastNext, ino, ino
		})
	}
	return all
}

// wrongNodes holds states with nodes that may not be.
func wrongNodes(t testing.TB) map[string]fs.State {
	change := func(at int, f func(n *fs.Node)) fs.State {
		return with(base(t), func(s *fs.State) { f(&s.Nodes[at]) })
	}
	all := map[string]fs.State{
		"root a file":          {Next: 2, Nodes: []fs.Node{{Ino: 1}}},
		"root a file, linked":  {Next: 2, Nodes: []fs.Node{{Ino: 1, Links: 1}}},
		"root of zero":         {Next: 2, Nodes: []fs.Node{{}}},
		"directory said file":  change(atA, func(n *fs.Node) { n.Dir = false }),
		"empty one said file":  change(atC, func(n *fs.Node) { n.Dir = false }),
		"file said directory":  change(atF, func(n *fs.Node) { n.Dir = true }),
		"names fall":           change(atA, func(n *fs.Node) { slices.Reverse(n.Entries) }),
		"name twice":           change(atA, func(n *fs.Node) { n.Entries[0].Name = "g" }),
		"no name":              change(atA, func(n *fs.Node) { n.Entries[0].Name = "" }),
		"root's no name":       change(atRoot, func(n *fs.Node) { n.Entries[0].Name = "" }),
		"name .":               change(atA, func(n *fs.Node) { n.Entries[0].Name = "." }),
		"name ..":              change(atA, func(n *fs.Node) { n.Entries[0].Name = ".." }),
		"name with /":          change(atA, func(n *fs.Node) { n.Entries[0].Name = "b/" }),
		"name with 0":          change(atA, func(n *fs.Node) { n.Entries[0].Name = "b\x00" }),
		"name of 17":           change(atA, func(n *fs.Node) { n.Entries[0].Name = strings.Repeat("b", 17) }),
		"directory of a size":  change(atC, func(n *fs.Node) { n.File.Size = 1 }),
		"directory of octets":  change(atC, func(n *fs.Node) { n.File, _ = file.Of([]byte("octets")) }),
		"directory of a block": change(atC, func(n *fs.Node) { n.File.Blocks = []file.Block{{Data: bytes.Repeat([]byte{1}, 32)}} }),
		"root of a size":       change(atRoot, func(n *fs.Node) { n.File.Size = 1 }),
		"root below a size":    change(atRoot, func(n *fs.Node) { n.File.Size = -1 }),
		"root of a zero block": change(atRoot, func(n *fs.Node) { n.File.Blocks = []file.Block{{}} }),
		"size -1":              change(atF, func(n *fs.Node) { n.File.Size = -1 }),
		"size too small":       change(atF, func(n *fs.Node) { n.File.Size = 5 }),
		"size too great":       change(atF, func(n *fs.Node) { n.File.Size = largest + 1 }),
		"short block":          change(atJ, func(n *fs.Node) { n.File.Blocks[1].Data = n.File.Blocks[1].Data[1:] }),
		"block of zeros":       change(atJ, func(n *fs.Node) { clear(n.File.Blocks[1].Data) }),
		"blocks fall":          change(atJ, func(n *fs.Node) { slices.Reverse(n.File.Blocks) }),
		"octets behind size":   change(atJ, func(n *fs.Node) { n.File.Blocks[3].Data[31] = 1 }),
	}
	// A file with an entry that is counted, and nothing else that may not be.
	all["file with an entry"] = with(base(t), func(s *fs.State) {
		s.Nodes[atJ].Entries, s.Nodes[atF].Links = []dir.Entry{{Name: "f", Ino: s.Nodes[atF].Ino}}, 4
	})
	all["empty file with an entry"] = with(base(t), func(s *fs.State) {
		s.Nodes[atH].Entries, s.Nodes[atF].Links = []dir.Entry{{Name: "f", Ino: s.Nodes[atF].Ino}}, 4
	})
	all["64 entries"] = with(made(t, filled("", mostEntries)...), func(s *fs.State) {
		s.Nodes = append(s.Nodes, fs.Node{Ino: s.Next, Links: 1})
		s.Nodes[0].Entries = append(s.Nodes[0].Entries, dir.Entry{Name: "one", Ino: s.Next})
		s.Next++
	})
	return all
}

// wrongLinks holds states in which names and nodes do not fit.
func wrongLinks(t testing.TB) map[string]fs.State {
	all := map[string]fs.State{
		"root named":          {Next: 2, Nodes: []fs.Node{{Ino: 1, Dir: true, Links: 1, Entries: []dir.Entry{{Name: "a", Ino: 1}}}}},
		"root named, Links 0": {Next: 2, Nodes: []fs.Node{{Ino: 1, Dir: true, Entries: []dir.Entry{{Name: "a", Ino: 1}}}}},
		"root named below":    {Next: 3, Nodes: []fs.Node{{Ino: 1, Dir: true, Links: 1, Entries: []dir.Entry{{Name: "a", Ino: 2}}}, {Ino: 2, Dir: true, Links: 1, Entries: []dir.Entry{{Name: "a", Ino: 1}}}}},
		"file not named":      with(base(t), func(s *fs.State) { s.Nodes = append(s.Nodes, fs.Node{Ino: s.Next}); s.Next++ }),
		"file not named, 1":   with(base(t), func(s *fs.State) { s.Nodes = append(s.Nodes, fs.Node{Ino: s.Next, Links: 1}); s.Next++ }),
		"dir not named":       with(base(t), func(s *fs.State) { s.Nodes = append(s.Nodes, fs.Node{Ino: s.Next, Dir: true}); s.Next++ }),
		"dir not named, 1":    with(base(t), func(s *fs.State) { s.Nodes = append(s.Nodes, fs.Node{Ino: s.Next, Dir: true, Links: 1}); s.Next++ }),
		"dir named twice": with(base(t), func(s *fs.State) {
			s.Nodes[atRoot].Entries = append(s.Nodes[atRoot].Entries, dir.Entry{Name: "z", Ino: s.Nodes[atC].Ino})
			s.Nodes[atC].Links++
		}),
		"dir named twice, 1": with(base(t), func(s *fs.State) {
			s.Nodes[atRoot].Entries = append(s.Nodes[atRoot].Entries, dir.Entry{Name: "z", Ino: s.Nodes[atC].Ino})
		}),
		"17 links": with(made(t, linked("", mostLinks)...), func(s *fs.State) {
			s.Nodes[0].Entries = append(s.Nodes[0].Entries, dir.Entry{Name: "one", Ino: 2})
			s.Nodes[1].Links++
		}),
		"16 links and one more": with(made(t, linked("", mostLinks)...), func(s *fs.State) { s.Nodes[0].Entries = append(s.Nodes[0].Entries, dir.Entry{Name: "one", Ino: 2}) }),
	}
	for at := range base(t).Nodes {
		for _, links := range []int{math.MinInt, -1, 0, 1, 2, 3, 4, 16, 17, math.MaxInt} {
			s := with(base(t), func(s *fs.State) { s.Nodes[at].Links = links })
			if links != base(t).Nodes[at].Links {
				all["node "+strconv.Itoa(at)+" of links "+strconv.Itoa(links)] = s
			}
		}
	}
	for _, ino := range []int{math.MinInt, -1, 0, 8, 9, lastNext, lastNext + 1, math.MaxInt} {
		all["nothing named "+strconv.Itoa(ino)] = with(base(t), func(s *fs.State) {
			s.Nodes[atRoot].Entries = append(s.Nodes[atRoot].Entries, dir.Entry{Name: "z", Ino: ino})
		})
	}
	return all
}

// loose is base with nodes beside it that nothing of it names, their numbers from 8 on.
func loose(t testing.TB, nodes ...fs.Node) fs.State {
	return with(base(t), func(s *fs.State) {
		for _, n := range nodes {
			n.Ino, n.Links = s.Next, 1
			s.Nodes = append(s.Nodes, n)
			s.Next++
		}
	})
}

// deeper is s with one more node in that of number 'in', which has no entries yet.
func deeper(s fs.State, in int, isDir bool) fs.State {
	return with(s, func(s *fs.State) {
		for i := range s.Nodes {
			if s.Nodes[i].Ino == in {
				s.Nodes[i].Entries = []dir.Entry{{Name: "e", Ino: s.Next}}
			}
		}
		s.Nodes = append(s.Nodes, fs.Node{Ino: s.Next, Dir: isDir, Links: 1})
		s.Next++
	})
}

// wrongWays holds states in which something is not reached, or lies too deep.
func wrongWays(t testing.TB) map[string]fs.State {
	names := func(ino int) []dir.Entry { return []dir.Entry{{Name: "x", Ino: ino}} }
	eight := made(t, append(chained(8), "/f")...)
	var many []fs.Node
	for i := range mostNodes - len(base(t).Nodes) {
		many = append(many, fs.Node{Dir: true, Entries: names(9 + i)})
	}
	many[len(many)-1].Entries = names(8)
	return map[string]fs.State{
		"names itself":           loose(t, fs.Node{Dir: true, Entries: names(8)}),
		"two name each other":    loose(t, fs.Node{Dir: true, Entries: names(9)}, fs.Node{Dir: true, Entries: names(8)}),
		"three, and a file":      loose(t, fs.Node{Dir: true, Entries: names(9)}, fs.Node{Dir: true, Entries: names(10)}, fs.Node{Dir: true, Entries: []dir.Entry{{Name: "x", Ino: 8}, {Name: "y", Ino: 11}}}, fs.Node{}),
		"a ring of all the rest": loose(t, many...),
		"9 directories":          deeper(eight, 9, true),
		"10 directories":         deeper(deeper(eight, 9, true), 11, true),
		"a file at 9":            deeper(eight, 9, false),
		// Its other name lies well, but this one no path tells.
		"a link at 9": with(eight, func(s *fs.State) {
			s.Nodes[8].Entries, s.Nodes[9].Links = names(10), 2
		}),
	}
}

// wrongStates holds states that may not be, each for one cause.
func wrongStates(t testing.TB) map[string]fs.State {
	all := map[string]fs.State{}
	for _, some := range []map[string]fs.State{wrongNumbers(t), wrongNodes(t), wrongLinks(t), wrongWays(t)} {
		for name, s := range some {
			if _, twice := all[name]; twice {
				t.Fatalf("two states %q", name)
			}
			all[name] = s
		}
	}
	return all
}

// P10.1: New is the root alone.
func TestNew(t *testing.T) {
	want := fs.State{Nodes: []fs.Node{{Ino: 1, Dir: true}}, Next: 2}
	if s := fs.New(); !same(s, want) || fs.Check(s) != api.OK {
		t.Errorf("New() = %+v", s)
	}
}

// P10.1: Check takes what may be.
func TestCheck(t *testing.T) {
	for name, s := range rightStates(t) {
		if err := fs.Check(s); err != api.OK || !mayBe(s) {
			t.Errorf("%s: %d", name, err)
		}
	}
}

// P10.1: Check refuses what may not be.
func TestCheckRefuses(t *testing.T) {
	for name, s := range wrongStates(t) {
		if err := fs.Check(s); err != api.ErrState || mayBe(s) {
			t.Errorf("%s: %d", name, err)
		}
	}
}

// P10.1 and P4: all calls tell Check's error first, whatever else is wrong, and nothing beside it.
func TestCheckFirst(t *testing.T) {
	for name, s := range wrongStates(t) {
		for kind := find; kind <= stat; kind++ {
			for _, p := range []string{"/", "/f", "/a/b", "/no", "", "no path", strings.Repeat("/", 129)} {
				o := api.Op{Kind: kind, Path: p, To: p, Off: -1, N: -1, Data: []byte("x")}
				if got := call(s, o); !sameAnswer(got, refused(api.ErrState)) {
					t.Fatalf("%s: %+v tells %+v", name, o, got)
				}
			}
		}
	}
}

// mayBe reads the chapter's words of a state.
func mayBe(s fs.State) bool {
	if s.Next < 2 || s.Next > lastNext || len(s.Nodes) > mostNodes {
		return false
	}
	there := map[int]fs.Node{}
	for i, n := range s.Nodes {
		if n.Ino < 1 || n.Ino >= s.Next || i > 0 && s.Nodes[i-1].Ino >= n.Ino {
			return false
		}
		there[n.Ino] = n
	}
	if top, ok := there[1]; !ok || !top.Dir || top.Links != 0 {
		return false
	}
	for _, n := range s.Nodes {
		if n.Dir && (dir.Check(n.Entries) != api.OK || n.File.Size != 0 || len(n.File.Blocks) != 0) {
			return false
		}
		if !n.Dir && (len(n.Entries) != 0 || file.Check(n.File) != api.OK) {
			return false
		}
	}
	return linksFit(s, there) && allReached(s, there)
}

func linksFit(s fs.State, there map[int]fs.Node) bool {
	var named []int
	for _, n := range s.Nodes {
		for _, e := range n.Entries {
			if _, ok := there[e.Ino]; !ok {
				return false
			}
			named = append(named, e.Ino)
		}
	}
	for _, n := range s.Nodes {
		count := 0
		for _, ino := range named {
			if ino == n.Ino {
				count++
			}
		}
		if n.Links != count || n.Ino == 1 && count != 0 || n.Ino != 1 && n.Dir && count != 1 || n.Ino != 1 && (count < 1 || count > mostLinks) {
			return false
		}
	}
	return true
}

// allReached goes down from the root, depth by depth.
func allReached(s fs.State, there map[int]fs.Node) bool {
	reached := map[int]bool{}
	level := []int{1}
	for depth := 0; len(level) > 0; depth++ {
		if depth > deepest {
			return false
		}
		var next []int
		for _, ino := range level {
			reached[ino] = true
			for _, e := range there[ino].Entries {
				next = append(next, e.Ino)
			}
		}
		level = next
	}
	return len(reached) == len(s.Nodes)
}

// spoil changes something of a state, whatever it was.
func spoil(chance *rand.Rand, s *fs.State) {
	numbers := []int{-1, 0, 1, 2, 3, 4, 5, 8, 16, 17, 128, largest, lastNext, lastNext + 1, math.MaxInt, math.MinInt}
	number := numbers[chance.Intn(len(numbers))]
	if len(s.Nodes) == 0 || chance.Intn(12) == 0 {
		s.Next = number
		return
	}
	n := &s.Nodes[chance.Intn(len(s.Nodes))]
	switch chance.Intn(8) {
	case 0:
		n.Ino = number
	case 1:
		n.Dir = !n.Dir
	case 2:
		n.Links += chance.Intn(3) - 1
	case 3:
		n.File.Size = number
	case 4:
		if len(n.Entries) > 0 {
			n.Entries[chance.Intn(len(n.Entries))].Ino = s.Nodes[chance.Intn(len(s.Nodes))].Ino
		}
	case 5:
		if len(n.Entries) > 0 {
			at := chance.Intn(len(n.Entries))
			n.Entries = slices.Delete(n.Entries, at, at+1)
		}
	case 6:
		n.Entries = append(n.Entries, dir.Entry{Name: "z" + numbered(chance.Intn(9)), Ino: s.Nodes[chance.Intn(len(s.Nodes))].Ino})
	case 7:
		at := chance.Intn(len(s.Nodes))
		s.Nodes = slices.Delete(s.Nodes, at, at+1)
	}
}

// P1 and P10.1: of states with some faults Check tells what the words do, and every call ends.
func TestCheckSpoiled(t *testing.T) {
	chance := rand.New(rand.NewSource(10))
	from := []fs.State{base(t), made(t, chained(8)...), made(t, append(chained(7), chain(7)+"/f", "/f="+chain(7)+"/f")...), made(t, linked("", mostLinks)...)}
	counts := map[api.Errno]int{}
	for range 60000 {
		s := copied(from[chance.Intn(len(from))])
		for range 1 + chance.Intn(3) {
			spoil(chance, &s)
		}
		want := api.ErrState
		if mayBe(s) {
			want = api.OK
		}
		if err := fs.Check(s); err != want {
			t.Fatalf("Check(%+v) = %d, want %d", s, err, want)
		}
		counts[want]++
		o := api.Op{Kind: chance.Intn(12), Path: "/a/b", To: "/d/d"}
		if want == api.OK {
			modelOf(s).check(t, s, o)
		} else if got := call(s, o); !sameAnswer(got, refused(api.ErrState)) {
			t.Fatalf("%+v tells %+v", o, got)
		}
	}
	if counts[api.OK] < 500 || counts[api.ErrState] < 500 {
		t.Errorf("too few of one kind: %v", counts)
	}
}
