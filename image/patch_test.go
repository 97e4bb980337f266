package image_test

import (
	"bytes"
	"maps"
	"math"
	"math/rand"
	"slices"
	"strconv"
	"strings"
	"testing"

	"undercroft/api"
	"undercroft/dir"
	"undercroft/file"
	"undercroft/fs"
	"undercroft/image"
	"undercroft/wire"
)

// byIno is a state's nodes, each as its record.
func byIno(s fs.State) map[int]string {
	nodes := map[int]string{}
	for _, n := range s.Nodes {
		nodes[n.Ino] = string(nodeRecord(n))
	}
	return nodes
}

// plainDiff is what makes b of a, as the chapter lays it.
func plainDiff(a, b fs.State) [][]byte {
	before, after := byIno(a), byIno(b)
	l := [][]byte{nil}
	changed := 0
	for _, ino := range slices.Sorted(maps.Keys(after)) {
		if before[ino] != after[ino] {
			l = append(l, []byte(after[ino]))
			changed++
		}
	}
	for _, ino := range slices.Sorted(maps.Keys(before)) {
		if after[ino] == "" {
			l = append(l, gone(ino))
		}
	}
	l[0] = head(b.Next, changed, len(l)-1-changed)
	return l
}

// holdDiff holds Diff to its form, and Patch of it to b (P12.2, P12.4).
func holdDiff(t *testing.T, name string, a, b fs.State) {
	t.Helper()
	l, err := image.Diff(a, b)
	if err != api.OK || !sameRecords(l, plainDiff(a, b)) {
		t.Fatalf("%s: Diff = %x, %d, want %x", name, l, err, plainDiff(a, b))
	}
	if got, err := image.Patch(a, l); err != api.OK || !same(got, b) {
		t.Fatalf("%s: Patch = %+v, %d, want %+v", name, got, err, b)
	}
}

// P12.2, P12.4: of any two states, either way.
func TestDiff(t *testing.T) {
	for name, a := range rightStates() {
		for other, b := range rightStates() {
			holdDiff(t, name+" to "+other, a, b)
		}
	}
}

// P12.2: forms written out.
func TestWrittenDiff(t *testing.T) {
	s := base()
	for name, c := range map[string]struct {
		b    fs.State
		want [][]byte
	}{
		"nothing":   {s, [][]byte{head(7, 0, 0)}},
		"Next":      {with(func(s *fs.State) { s.Next = 9 }), [][]byte{head(9, 0, 0)}},
		"a lower":   {with(func(s *fs.State) { s.Nodes, s.Next = fs.New().Nodes, 2 }), [][]byte{head(2, 1, 4), record(1, []int{1, 1, 0, 0}, "", ""), gone(2), gone(3), gone(5), gone(6)}},
		"an octet":  {mustWrite(s, "/h", 0, "x"), [][]byte{head(7, 1, 0), record(1, []int{6, 0, 1, 1}, "", "\x00x"+strings.Repeat("\x00", 31))}},
		"an other":  {mustWrite(s, "/g", 0, "B"), [][]byte{head(7, 1, 0), record(1, []int{3, 0, 2, 100}, "", "\x00Beginning"+strings.Repeat("\x00", 23)+"\x03\x00end"+strings.Repeat("\x00", 28))}},
		"zeros":     {must(fs.Truncate(s, "/h", 5)), [][]byte{head(7, 1, 0), record(1, []int{6, 0, 1, 5}, "", "")}},
		"a link":    {must(fs.Link(s, "/h", "/e/i")), [][]byte{head(7, 2, 0), record(1, []int{5, 1, 1, 0}, entryText(dir.Entry{Name: "i", Ino: 6}), ""), record(1, []int{6, 0, 2, 0}, "", "")}},
		"a new one": {must(fs.Mkdir(s, "/e/i")), [][]byte{head(8, 2, 0), record(1, []int{5, 1, 1, 0}, entryText(dir.Entry{Name: "i", Ino: 7}), ""), record(1, []int{7, 1, 1, 0}, "", "")}},
		"one gone":  {must(fs.Unlink(s, "/h")), [][]byte{head(7, 1, 1), record(1, []int{1, 1, 0, 0}, entryText(dir.Entry{Name: "d", Ino: 2}, dir.Entry{Name: "e", Ino: 5}, dir.Entry{Name: "g", Ino: 3}), ""), gone(6)}},
		"its kind":  {with(func(s *fs.State) { s.Nodes[3].Dir = false }), [][]byte{head(7, 1, 0), record(1, []int{5, 0, 1, 0}, "", "")}},
		"a name":    {with(func(s *fs.State) { s.Nodes[1].Entries[0].Name = "F" }), [][]byte{head(7, 1, 0), record(1, []int{2, 1, 1, 0}, entryText(dir.Entry{Name: "F", Ino: 3}), "")}},
	} {
		if l, err := image.Diff(s, c.b); err != api.OK || !sameRecords(l, c.want) {
			t.Errorf("%s: Diff = %x, %d, want %x", name, l, err, c.want)
		}
		holdDiff(t, name, s, c.b)
		holdDiff(t, name+", back", c.b, s)
	}
}

// P12.2: files that differ in nothing but where one and the same block stands are not the same.
func TestMovedBlock(t *testing.T) {
	empty := must(fs.Truncate(base(), "/h", 96))
	ahead, later := mustWrite(empty, "/h", 0, text(32)), mustWrite(empty, "/h", 32, text(32))
	if l, err := image.Diff(ahead, later); err != api.OK || len(l) != 2 {
		t.Errorf("Diff = %x, %d", l, err)
	}
	holdDiff(t, "later", ahead, later)
	holdDiff(t, "ahead", later, ahead)
}

// P12.2: Diff asks of a, then of b.
func TestDiffRefuses(t *testing.T) {
	hold := func(name string, a, b fs.State) {
		t.Helper()
		if l, err := image.Diff(a, b); err != api.ErrState || len(l) != 0 {
			t.Errorf("%s: Diff = %x, %d", name, l, err)
		}
	}
	for name, s := range wrongStates() {
		hold(name+" to base", s, base())
		hold("base to "+name, base(), s)
		hold(name+" to itself", s, s)
	}
}

func holdPatch(t *testing.T, name string, a fs.State, l [][]byte, want api.Errno) {
	t.Helper()
	if s, err := image.Patch(a, l); err != want || !isNoState(s) {
		t.Errorf("%s: Patch = %+v, %d, want %d", name, s, err, want)
	}
}

// subjects are two states with each of what a diff may have: nodes that change, that are new and that are gone, two of each.
func subjects() (fs.State, fs.State) {
	b := must(fs.Create(base(), "/e/new"))
	b = must(fs.Mkdir(b, "/e/next"))
	b = must(fs.Unlink(b, "/h"))
	b = must(fs.Unlink(b, "/g"))
	return base(), must(fs.Unlink(b, "/d/f"))
}

// P12.2: a state that may not be goes ahead of all records.
func TestPatchRefusesStates(t *testing.T) {
	a, b := subjects()
	for name, s := range wrongStates() {
		holdPatch(t, name, s, plainDiff(a, b), api.ErrState)
		holdPatch(t, name+", nothing", s, nil, api.ErrState)
		holdPatch(t, name+", no head", s, [][]byte{gone(7)}, api.ErrState)
		holdPatch(t, name+", a whole one", s, plainDiff(fs.New(), b), api.ErrState)
	}
}

// P12.2: what is wrong with the first record goes ahead of all behind it.
func TestPatchRefusesHead(t *testing.T) {
	a, b := subjects()
	whole := plainDiff(a, b)
	changed, away := 5, 2
	if !bytes.Equal(whole[0], head(b.Next, changed, away)) {
		t.Fatalf("%x", whole[0])
	}
	all := wrongHeads(b.Next, changed, away)
	// Such numbers of records may not be, though their sum could.
	for _, by := range []int{changed + 1, changed + away + 1, 1 << 8, 1 << 32, 1 << 62, math.MaxInt} {
		all["less and more by "+strconv.Itoa(by)] = wrongRecord{head(b.Next, changed-by, away+by), api.ErrCount}
		all["more and less by "+strconv.Itoa(by)] = wrongRecord{head(b.Next, changed+by, away-by), api.ErrCount}
	}
	all["round and round"] = wrongRecord{head(b.Next, math.MinInt, math.MinInt+changed+away), api.ErrCount}
	all["of both the highest"] = wrongRecord{head(b.Next, math.MaxInt, math.MaxInt), api.ErrCount}
	for _, by := range []int{1, -1, 1 << 32} {
		all["last count by "+strconv.Itoa(by)] = wrongRecord{head(b.Next, changed, away+by), api.ErrCount}
	}
	for name, c := range all {
		l := slices.Clone(whole)
		l[0] = c.b
		holdPatch(t, name, a, l, c.want)
		for at := 1; at < len(l); at++ {
			l[at] = nil
		}
		holdPatch(t, name+", all else spoiled", a, l, c.want)
	}
	holdPatch(t, "nil", a, nil, api.ErrShort)
	holdPatch(t, "empty", a, [][]byte{}, api.ErrShort)
	holdPatch(t, "head alone", a, whole[:1], api.ErrCount)
	holdPatch(t, "one missing", a, whole[:len(whole)-1], api.ErrCount)
	holdPatch(t, "one too many", a, append(slices.Clip(whole), whole[1]), api.ErrCount)
	holdPatch(t, "a spoiled one too many", a, append(slices.Clip(whole), nil), api.ErrCount)
	holdPatch(t, "no head", a, whole[1:], api.ErrKind)
	holdPatch(t, "a whole image", a, plainImage(b), api.ErrCount)
	// One more of one kind and one less of the other: there are so many together, but one is of a wrong kind.
	l := slices.Clone(whole)
	l[0] = head(b.Next, changed+1, away-1)
	holdPatch(t, "one more changed", a, l, api.ErrKind)
	l[0] = head(b.Next, changed-1, away+1)
	holdPatch(t, "one more gone", a, l, api.ErrKind)
}

// wrongGone holds records in the place of one of Kind 2, and the error that each has first.
func wrongGone() map[string]wrongRecord {
	all := map[string]wrongRecord{
		"kind 0":              {record(0, []int{3}), api.ErrKind},
		"kind 1":              {record(1, []int{3}), api.ErrKind},
		"kind 3":              {record(3, []int{3}), api.ErrKind},
		"kind 255":            {record(255, []int{3}), api.ErrKind},
		"a node":              {nodeRecord(base().Nodes[1]), api.ErrKind},
		"no numbers":          {record(2, nil), api.ErrCount},
		"2 numbers":           {record(2, []int{3, 3}), api.ErrCount},
		"64 numbers":          {record(2, make([]int, 64)), api.ErrCount},
		"a text":              {record(2, []int{3}, ""), api.ErrCount},
		"2 texts":             {record(2, []int{3}, "", ""), api.ErrCount},
		"kind ahead of count": {record(1, nil), api.ErrKind},
		"kind ahead of none":  {record(1, []int{99}), api.ErrKind},
		"count ahead of none": {record(2, []int{99}, ""), api.ErrCount},
	}
	for name, c := range unread() {
		all[name] = c
	}
	return all
}

// P12.2: what is wrong with a record is told, wherever it stands, ahead of what is wrong behind it and of the state.
func TestPatchRefusesRecords(t *testing.T) {
	a, b := subjects()
	whole := plainDiff(a, b)
	changed := 5
	for at := 1; at < len(whole); at++ {
		wrong, next := wrongNodes(), wrongNodes()
		if at > changed {
			wrong = wrongGone()
		}
		if at+1 > changed {
			next = wrongGone()
		}
		for name, c := range wrong {
			l := slices.Clone(whole)
			l[at] = c.b
			holdPatch(t, name, a, l, c.want)
			l[0] = head(-1, changed, len(l)-1-changed)
			holdPatch(t, name+", a wrong Next", a, l, c.want)
			for other, d := range next {
				if at+1 < len(l) {
					l[at+1] = d.b
					holdPatch(t, name+", then "+other, a, l, c.want)
				}
			}
			if at <= changed {
				l[len(l)-1] = gone(99)
				holdPatch(t, name+", then none", a, l, c.want)
			}
		}
	}
}

// P12.2: one that is gone and is not in a, ahead of the state, behind all that is wrong with records.
func TestPatchRefusesNone(t *testing.T) {
	a, b := subjects()
	changed := nodeRecord(fs.Node{Ino: 50, Links: 1})
	for _, ino := range []int{0, -1, -3, 4, 7, 99, lastNext, 1<<32 + 3, math.MaxInt, math.MinInt} {
		name := strconv.Itoa(ino)
		holdPatch(t, name, a, [][]byte{head(a.Next, 0, 1), gone(ino)}, api.ErrNone)
		holdPatch(t, name+", a wrong Next", a, [][]byte{head(-1, 0, 1), gone(ino)}, api.ErrNone)
		holdPatch(t, name+", a wrong state", a, [][]byte{head(a.Next, 1, 2), changed, gone(1), gone(ino)}, api.ErrNone)
		holdPatch(t, name+" first", a, [][]byte{head(a.Next, 0, 2), gone(ino), gone(6)}, api.ErrNone)
		holdPatch(t, name+" last", a, slices.Concat([][]byte{head(b.Next, 5, 3)}, plainDiff(a, b)[1:], [][]byte{gone(ino)}), api.ErrNone)
		// One that the records bring is in the state behind them, and not in a.
		holdPatch(t, name+", told to be new", a, [][]byte{head(a.Next, 1, 1), nodeRecord(fs.Node{Ino: ino, Links: 1}), gone(ino)}, api.ErrNone)
		for other, c := range wrongGone() {
			holdPatch(t, name+", then "+other, a, [][]byte{head(a.Next, 0, 2), gone(ino), c.b}, c.want)
		}
	}
}

// P12.2: records, each right, that make a state that may not be.
func TestPatchRefusesOutcomes(t *testing.T) {
	a := base()
	for name, l := range map[string][][]byte{
		"the root gone":  {head(7, 0, 1), gone(1)},
		"one named":      {head(7, 0, 1), gone(6)},
		"one not named":  {head(8, 1, 0), record(1, []int{7, 0, 1, 0}, "", "")},
		"links":          {head(7, 1, 0), record(1, []int{6, 0, 2, 0}, "", "")},
		"a size":         {head(7, 1, 0), record(1, []int{6, 0, 1, largest + 1}, "", "")},
		"a far node":     {head(7, 1, 0), record(1, []int{1 << 40, 0, 1, 0}, "", "")},
		"a node below 0": {head(7, 1, 0), record(1, []int{-6, 0, 1, 0}, "", "")},
		"Next":           {head(6, 0, 0)},
		"Next below 0":   {head(-1, 0, 0)},
		"far Next":       {head(lastNext+1, 0, 0)},
	} {
		holdPatch(t, name, a, l, api.ErrState)
	}
	holdPatch(t, "what another one needs", fs.New(), plainDiff(a, mustWrite(a, "/g", 0, "x")), api.ErrState)
	// As many nodes as may be, and one more.
	full := crowd()
	more := fs.State{Next: full.Next + 1, Nodes: append(slices.Clone(full.Nodes), fs.Node{Ino: full.Next, Links: 1})}
	more.Nodes[2].Entries = append(slices.Clone(more.Nodes[2].Entries), dir.Entry{Name: "z", Ino: full.Next})
	holdPatch(t, "129 nodes", full, plainDiff(full, more), api.ErrState)
}

// P12.2: the nodes of Kind 1 need stand in no order; one takes the place of an other with its number; one that is gone may be told so twice.
func TestPatchOrder(t *testing.T) {
	a, b := subjects()
	whole := plainDiff(a, b)
	hold := func(name string, a fs.State, l [][]byte, want fs.State) {
		t.Helper()
		if got, err := image.Patch(a, l); err != api.OK || !same(got, want) {
			t.Errorf("%s: Patch = %+v, %d, want %+v", name, got, err, want)
		}
	}
	back := slices.Clone(whole)
	slices.Reverse(back[1:6])
	slices.Reverse(back[6:])
	hold("back", a, back, b)
	chance := rand.New(rand.NewSource(3))
	whole = plainDiff(fs.New(), crowd())
	for range 10 {
		chance.Shuffle(len(whole)-1, func(i, j int) { whole[1+i], whole[1+j] = whole[1+j], whole[1+i] })
		hold("shuffled", fs.New(), whole, crowd())
	}
	hold("gone twice", a, slices.Concat([][]byte{head(b.Next, 5, 4)}, plainDiff(a, b)[1:], [][]byte{gone(3), gone(6)}), b)
	written := mustWrite(a, "/h", 0, "x")
	first, second := nodeRecord(mustWrite(a, "/h", 0, "other").Nodes[4]), nodeRecord(written.Nodes[4])
	hold("changed twice", a, [][]byte{head(a.Next, 2, 0), first, second}, written)
	hold("not changed", a, [][]byte{head(a.Next, 1, 0), nodeRecord(a.Nodes[4])}, a)
	// What a had is gone, and the node of Kind 1 stands there as a new one.
	hold("gone and new", a, [][]byte{head(a.Next, 1, 1), second, gone(6)}, written)
	hold("nothing", a, [][]byte{head(a.Next, 0, 0)}, a)
}

// P12.2, P12.4: any two states of scripts, either way.
func TestDiffScripts(t *testing.T) {
	chance := rand.New(rand.NewSource(2))
	var states []fs.State
	for range 12 {
		s := fs.New()
		for range 6 {
			for range 10 {
				s = chanceState(chance, s)
			}
			states = append(states, s)
		}
	}
	for i, a := range states {
		for j, b := range states {
			holdDiff(t, strconv.Itoa(i)+" to "+strconv.Itoa(j), a, b)
		}
	}
}

// P12.4: diffs one behind the other lead where one leads.
func TestDiffChain(t *testing.T) {
	chance := rand.New(rand.NewSource(4))
	s, kept := fs.New(), fs.New()
	for range 300 {
		next := chanceState(chance, s)
		l, err := image.Diff(s, next)
		if err != api.OK {
			t.Fatal(err)
		}
		kept, err = image.Patch(kept, l)
		if err != api.OK || !same(kept, next) {
			t.Fatalf("Patch = %+v, %d, want %+v", kept, err, next)
		}
		s = next
	}
}

// modelBlock is the block at the beginning of a text.
func modelBlock(text []byte) file.Block {
	return file.Block{Index: int(text[0]), Data: bytes.Clone(text[1:perBlock])}
}

// modelNode reads a node by the chapter's words, one after another.
func modelNode(b []byte) (fs.Node, api.Errno) {
	r, err := wire.Decode(b)
	if err != api.OK {
		return fs.Node{}, err
	}
	if r.Kind != 1 {
		return fs.Node{}, api.ErrKind
	}
	if len(r.Nums) != 4 || len(r.Texts) != 2 {
		return fs.Node{}, api.ErrCount
	}
	if r.Nums[1] != 0 && r.Nums[1] != 1 {
		return fs.Node{}, api.ErrArg
	}
	n := fs.Node{Ino: r.Nums[0], Dir: r.Nums[1] == 1, Links: r.Nums[2]}
	n.File.Size = r.Nums[3]
	n.Entries, err = dir.Decode(r.Texts[0])
	if err != api.OK {
		return fs.Node{}, err
	}
	left := r.Texts[1]
	for len(left) >= perBlock {
		n.File.Blocks = append(n.File.Blocks, modelBlock(left))
		left = left[perBlock:]
	}
	if len(left) > 0 {
		return fs.Node{}, api.ErrShort
	}
	return n, api.OK
}

// model tells what Patch tells by the chapter's words; where none is to be patched, what Decode tells.
func model(a *fs.State, l [][]byte) (fs.State, api.Errno) {
	if len(l) == 0 {
		return fs.State{}, api.ErrShort
	}
	wanted := 2
	if a != nil {
		wanted = 3
	}
	r, err := wire.Decode(l[0])
	if err != api.OK {
		return fs.State{}, err
	}
	if r.Kind != 0 {
		return fs.State{}, api.ErrKind
	}
	if len(r.Nums) != wanted || len(r.Texts) != 0 {
		return fs.State{}, api.ErrCount
	}
	count, away := r.Nums[1], 0
	if a != nil {
		away = r.Nums[2]
	}
	if count < 0 || away < 0 || uint64(count)+uint64(away) != uint64(len(l)-1) {
		return fs.State{}, api.ErrCount
	}
	var nodes []fs.Node
	for _, b := range l[1 : 1+count] {
		n, err := modelNode(b)
		if err != api.OK {
			return fs.State{}, err
		}
		nodes = append(nodes, n)
	}
	if a != nil {
		nodes, err = modelPatch(*a, nodes, l[1+count:])
		if err != api.OK {
			return fs.State{}, err
		}
	}
	s := fs.State{Next: r.Nums[0], Nodes: nodes}
	if err := fs.Check(s); err != api.OK {
		return fs.State{}, err
	}
	return s, api.OK
}

// modelPatch takes away what the records tell, and then puts nodes where they stand.
func modelPatch(a fs.State, nodes []fs.Node, records [][]byte) ([]fs.Node, api.Errno) {
	before, there := map[int]fs.Node{}, map[int]fs.Node{}
	for _, n := range a.Nodes {
		before[n.Ino], there[n.Ino] = n, n
	}
	missing := false
	for _, b := range records {
		r, err := wire.Decode(b)
		if err != api.OK {
			return nil, err
		}
		if r.Kind != 2 {
			return nil, api.ErrKind
		}
		if len(r.Nums) != 1 || len(r.Texts) != 0 {
			return nil, api.ErrCount
		}
		_, known := before[r.Nums[0]]
		missing = missing || !known
		delete(there, r.Nums[0])
	}
	if missing {
		return nil, api.ErrNone
	}
	for _, n := range nodes {
		there[n.Ino] = n
	}
	var out []fs.Node
	for _, ino := range slices.Sorted(maps.Keys(there)) {
		out = append(out, there[ino])
	}
	return out, api.OK
}

// holdRecords holds Decode and Patch to the model on any records; what Decode takes is what Encode lays.
func holdRecords(t *testing.T, a fs.State, l [][]byte) {
	t.Helper()
	before := clones(l)
	want, wantErr := model(nil, l)
	got, err := image.Decode(l)
	if err != wantErr || !same(got, want) {
		t.Fatalf("Decode of %x = %+v, %d, want %+v, %d", l, got, err, want, wantErr)
	}
	if err == api.OK {
		if again, err := image.Encode(got); err != api.OK || !sameRecords(again, l) {
			t.Fatalf("Decode takes %x, Encode of which is %x, %d", l, again, err)
		}
	}
	want, wantErr = model(&a, l)
	if got, err := image.Patch(a, l); err != wantErr || !same(got, want) {
		t.Fatalf("Patch by %x = %+v, %d, want %+v, %d", l, got, err, want, wantErr)
	}
	if !sameRecords(l, before) {
		t.Fatalf("%x is %x now", before, l)
	}
}

// P12.1, P12.2, P1: each octet of each record changed, as it is and sealed anew; each record cut, lost, doubled, in an other's place.
func TestSpoiledRecords(t *testing.T) {
	a, b := subjects()
	for _, whole := range [][][]byte{plainImage(a), plainDiff(a, b), plainDiff(b, a)} {
		for _, s := range []fs.State{a, b} {
			for at, rec := range whole {
				spoilRecord(t, s, whole, at)
				holdRecords(t, s, slices.Delete(slices.Clone(whole), at, at+1))
				holdRecords(t, s, slices.Insert(slices.Clone(whole), at, rec))
				for other := range whole {
					l := slices.Clone(whole)
					l[at], l[other] = l[other], l[at]
					holdRecords(t, s, l)
					l[other] = l[at]
					holdRecords(t, s, l)
				}
			}
		}
	}
}

func spoilRecord(t *testing.T, s fs.State, whole [][]byte, at int) {
	t.Helper()
	l := slices.Clone(whole)
	rec := whole[at]
	for i := range rec {
		for _, octet := range []byte{0, 1, 2, 3, 4, 5, 6, 7, 8, 31, 32, 33, 47, 64, 127, 128, 255, rec[i] ^ 1, rec[i] + 2} {
			changed := slices.Clone(rec)
			changed[i] = octet
			l[at] = changed
			holdRecords(t, s, l)
			l[at] = sealed(changed[:len(rec)-4])
			holdRecords(t, s, l)
		}
		l[at] = rec[:i]
		holdRecords(t, s, l)
		l[at] = sealed(rec[:i])
		holdRecords(t, s, l)
	}
}

// P12.1, P12.2: records of chance, of small numbers.
func TestChanceRecords(t *testing.T) {
	chance := rand.New(rand.NewSource(5))
	a, _ := subjects()
	for range 30000 {
		changed, away := chance.Intn(4), chance.Intn(3)
		l := [][]byte{head(chance.Intn(9), changed, away)}
		if chance.Intn(3) == 0 {
			l = [][]byte{head(chance.Intn(9), changed)}
		}
		for range changed {
			var entries []dir.Entry
			for i := range chance.Intn(3) {
				entries = append(entries, dir.Entry{Name: string(rune('d' + i)), Ino: 1 + chance.Intn(7)})
			}
			isDir := chance.Intn(2)
			l = append(l, record(1, []int{1 + chance.Intn(7), isDir, chance.Intn(2), chance.Intn(2)}, entryText(entries[:len(entries)*isDir]...), ""))
		}
		for range away {
			l = append(l, gone(1+chance.Intn(7)))
		}
		holdRecords(t, a, l)
		holdRecords(t, fs.New(), l)
	}
}

// P1: however many records there are, the call ends.
func TestManyRecords(t *testing.T) {
	const many = 200000
	l := make([][]byte, 1, many+1)
	for i := range many {
		l = append(l, record(1, []int{many - i, 0, 1, 0}, "", ""))
	}
	l[0] = head(many, many)
	holdDecode(t, "many nodes", l, api.ErrState)
	l[0] = head(many, many, 0)
	holdPatch(t, "many nodes", base(), l, api.ErrState)
	for i := range many {
		l[1+i] = gone(1 + i%3)
	}
	l[0] = head(many, 0, many)
	holdPatch(t, "many gone", base(), l, api.ErrState)
}

// P1: whatever octets come as records, as they are and sealed.
func FuzzRecords(f *testing.F) {
	a, b := subjects()
	for _, l := range [][][]byte{plainImage(a), plainDiff(a, b)} {
		f.Add(l[0], l[1], l[2])
	}
	f.Add([]byte{0, 3, 14, 2, 0, 0}, []byte{1, 4, 12, 0, 2, 0, 2, 0, 0}, []byte{2, 1, 12, 0})
	f.Fuzz(func(t *testing.T, first, second, third []byte) {
		l := [][]byte{first, second, third}
		holdRecords(t, a, l)
		holdRecords(t, b, [][]byte{sealed(first), sealed(second), sealed(third)})
		holdRecords(t, a, [][]byte{sealed(first), sealed(second)})
		holdRecords(t, a, [][]byte{head(7, 1, 1), sealed(second), sealed(third)})
		holdRecords(t, a, [][]byte{head(2, 1), sealed(second)})
	})
}
