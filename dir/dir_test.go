package dir_test

import (
	"bytes"
	"math"
	"math/rand"
	"reflect"
	"runtime"
	"slices"
	"strconv"
	"strings"
	"testing"
	"unsafe"

	"undercroft/api"
	"undercroft/dir"
)

// The faces keep the signatures of the chapter.
var (
	_ func(string) api.Errno                                = dir.Name
	_ func([]dir.Entry) api.Errno                           = dir.Check
	_ func([]dir.Entry, string) (int, bool, api.Errno)      = dir.Find
	_ func([]dir.Entry, dir.Entry) ([]dir.Entry, api.Errno) = dir.Add
	_ func([]dir.Entry, string) ([]dir.Entry, api.Errno)    = dir.Remove
	_ func([]dir.Entry) ([]byte, api.Errno)                 = dir.Encode
	_ func([]byte) ([]dir.Entry, api.Errno)                 = dir.Decode
)

const (
	most    = 63
	longest = 16
	highest = 1<<31 - 1
)

// rightNames holds names that may be, at the edges and of octets that are no letters.
func rightNames() []string {
	return []string{
		"a", "b", "A", "a.", ".a", "...", "....", "..a", ". ", " ", "-", "0", "\\", "\x01", "\x7f", "\x80", "\xff", "\xff\xfe", "é", "日本", "\xe6\x97", "\u2215",
		"a b", "a\nb", "\xc0\xaf", "0123456789abcde", "0123456789abcdef", strings.Repeat("\xff", longest), strings.Repeat(".", longest), strings.Repeat("é", longest/2),
	}
}

// wrongNames holds names that may not be, each for one cause.
func wrongNames() []string {
	return []string{
		"", ".", "..", "/", "\x00", "//", "a/b", "/a", "a/", "a\x00", "\x00a", "a\x00b", "./", "../", "\xff/", "\xff\x00", "é/",
		"0123456789abcde/", "/123456789abcdef", "\x00123456789abcdef", "0123456789abcde\x00",
		"0123456789abcdefg", strings.Repeat(".", longest+1), strings.Repeat("é", longest/2) + "a", strings.Repeat("é", longest/2+1), strings.Repeat("a", 255), strings.Repeat("b", 256), strings.Repeat("c", 257), strings.Repeat("d", 1<<16+1),
	}
}

func rightInos() []int {
	return []int{1, 2, 255, 256, 257, 65535, 65536, 1<<24 - 1, 1 << 24, 0x01020304, 1 << 30, highest - 1, highest}
}

func wrongInos() []int {
	return []int{0, -1, -2, math.MinInt32, math.MinInt, math.MinInt + 1, highest + 1, 1<<32 - 1, 1 << 32, 1<<32 + 1, 1<<33 + 5, 1 << 62, math.MaxInt - 1, math.MaxInt}
}

// made is n entries, with gaps between their names and their numbers in no order.
func made(n int) []dir.Entry {
	var l []dir.Entry
	for i := range n {
		l = append(l, dir.Entry{Name: "n" + string(rune('0'+i/8)) + string(rune('b'+2*(i%8))), Ino: 1 + (i*29)%97})
	}
	return l
}

// named is entries of these names, in this order.
func named(names ...string) []dir.Entry {
	var l []dir.Entry
	for i, name := range names {
		l = append(l, dir.Entry{Name: name, Ino: i + 1})
	}
	return l
}

// rightLists holds entries that may be.
func rightLists() map[string][]dir.Entry {
	names := rightNames()
	slices.Sort(names)
	all := map[string][]dir.Entry{
		"nil":                  nil,
		"empty":                {},
		"one number twice":     {{Name: "a", Ino: 7}, {Name: "b", Ino: 7}},
		"numbers fall":         {{Name: "a", Ino: highest}, {Name: "b", Ino: 1}},
		"names that may be":    named(names...),
		"beginnings":           named("a", "a\x01", "aa", "ab", "b"),
		"capitals ahead":       named("B", "C", "a"),
		"high octets behind":   named("a", "z", "\x7f", "\x80", "\xff"),
		"octets, not numbers":  named("10", "9"),
		"octets, not lengths":  named("aaa", "b"),
		"octets and not runes": named("\u00e9", "\xe6\x97", "\xf0\x9f\x98\x80", "\xff"),
	}
	for _, n := range []int{1, 2, 3, 7, 31, 32, 62, most} {
		all[strconv.Itoa(n)] = made(n)
	}
	return all
}

// wrongLists holds entries that may not be, each for one cause.
func wrongLists() map[string][]dir.Entry {
	change := func(n int, f func([]dir.Entry)) []dir.Entry {
		l := made(n)
		f(l)
		return l
	}
	all := map[string][]dir.Entry{
		"64":                     made(most + 1),
		"65":                     made(most + 2),
		"no entry at all":        {{}},
		"no entry behind":        append(made(3), dir.Entry{}),
		"no entry ahead":         append([]dir.Entry{{}}, made(3)...),
		"same twice":             named("a", "a"),
		"same twice in the end":  append(made(5), made(5)[4]),
		"same twice at the edge": change(most, func(l []dir.Entry) { l[62].Name = l[61].Name }),
		"names fall":             named("b", "a"),
		"names fall in between":  change(5, func(l []dir.Entry) { l[2], l[3] = l[3], l[2] }),
		"names fall at the end":  change(most, func(l []dir.Entry) { l[61], l[62] = l[62], l[61] }),
		"the last is first":      named("b", "c", "a"),
		"same with one between":  named("a", "b", "a"),
		"a beginning behind":     named("ab", "a"),
		"capitals behind":        named("a", "B"),
		"high octets ahead":      named("\x80", "a"),
		"numbers, not octets":    named("9", "10"),
		"lengths, not octets":    named("b", "aa"),
	}
	for _, name := range wrongNames() {
		where := strconv.Quote(name[:min(len(name), 20)]) + " " + strconv.Itoa(len(name))
		all["name "+where] = named(name)
		// Put in its place, its own fault alone is left.
		l := append(named("A", "z"), dir.Entry{Name: name, Ino: 9})
		slices.SortFunc(l, func(a, b dir.Entry) int { return strings.Compare(a.Name, b.Name) })
		all["name among others "+where] = l
	}
	for _, ino := range wrongInos() {
		for _, at := range []int{0, 1, most - 1} {
			all["number "+strconv.Itoa(ino)+" at "+strconv.Itoa(at)] = change(most, func(l []dir.Entry) { l[at].Ino = ino })
		}
	}
	return all
}

// around is the names that are asked for in l: its own, those near them, others that may be and that may not.
func around(l []dir.Entry) []string {
	names := append(rightNames(), wrongNames()...)
	for _, e := range l {
		names = append(names, e.Name, e.Name+"!", e.Name[:len(e.Name)-1], "!"+e.Name, strings.ToUpper(e.Name))
	}
	return names
}

// mayBe reads the chapter's words of a name, octet by octet.
func mayBe(name string) bool {
	if len(name) < 1 || len(name) > longest || name == "." || name == ".." {
		return false
	}
	for i := range len(name) {
		if name[i] == 0 || name[i] == '/' {
			return false
		}
	}
	return true
}

func mayNumber(ino int) bool {
	return ino >= 1 && ino <= highest
}

// model is a directory as a map.
type model map[string]int

func modelOf(l []dir.Entry) model {
	m := model{}
	for _, e := range l {
		m[e.Name] = e.Ino
	}
	return m
}

func (m model) entries() []dir.Entry {
	var l []dir.Entry
	for name, ino := range m {
		l = append(l, dir.Entry{Name: name, Ino: ino})
	}
	slices.SortFunc(l, func(a, b dir.Entry) int { return bytes.Compare([]byte(a.Name), []byte(b.Name)) })
	return l
}

// add is what Add answers of entries that may be, by the chapter's order of errors.
func (m model) add(e dir.Entry) ([]dir.Entry, api.Errno) {
	_, there := m[e.Name]
	switch {
	case !mayBe(e.Name):
		return nil, api.ErrName
	case !mayNumber(e.Ino):
		return nil, api.ErrRange
	case there:
		return nil, api.ErrExist
	case len(m) >= most:
		return nil, api.ErrFull
	}
	next := modelOf(m.entries())
	next[e.Name] = e.Ino
	return next.entries(), api.OK
}

func (m model) remove(name string) ([]dir.Entry, api.Errno) {
	if _, there := m[name]; !there {
		return nil, api.ErrNoEnt
	}
	next := modelOf(m.entries())
	delete(next, name)
	return next.entries(), api.OK
}

// laid is the octets of entries, by the chapter's words; of names up to 255 octets and any number's lowest 32 bits, so that it lays wrong ones, too.
func laid(l ...dir.Entry) []byte {
	var out []byte
	for _, e := range l {
		out = append(out, byte(len(e.Name)))
		out = append(out, e.Name...)
		out = append(out, byte(e.Ino>>24), byte(e.Ino>>16), byte(e.Ino>>8), byte(e.Ino))
	}
	return out
}

// P8.1: Name takes what may be, and refuses what may not.
func TestName(t *testing.T) {
	for _, name := range rightNames() {
		if err := dir.Name(name); err != api.OK {
			t.Errorf("Name(%q) = %d", name, err)
		}
	}
	for _, name := range wrongNames() {
		if err := dir.Name(name); err != api.ErrName {
			t.Errorf("Name(%q) = %d", name[:min(len(name), 20)], err)
		}
	}
	if dir.Name("a/b") != api.ErrName {
		t.Error("example 1")
	}
}

// P8.1: every octet in every place of names of every length, alone and among others.
func TestNameEachOctet(t *testing.T) {
	for length := range longest + 3 {
		for at := range length {
			for octet := range 256 {
				for _, fill := range []string{"a", ".", "\xff", "\xc3"} {
					name := []byte(strings.Repeat(fill, length))
					name[at] = byte(octet)
					want := api.OK
					if !mayBe(string(name)) {
						want = api.ErrName
					}
					if err := dir.Name(string(name)); err != want {
						t.Fatalf("Name(%q) = %d, want %d", name, err, want)
					}
				}
			}
		}
	}
}

// P8.1: Check takes entries that may be.
func TestCheck(t *testing.T) {
	for name, l := range rightLists() {
		if err := dir.Check(l); err != api.OK {
			t.Errorf("%s: Check = %d", name, err)
		}
	}
	for _, ino := range rightInos() {
		if err := dir.Check([]dir.Entry{{Name: "a", Ino: ino}}); err != api.OK {
			t.Errorf("Check of number %d = %d", ino, err)
		}
	}
	for _, name := range rightNames() {
		if err := dir.Check(named(name)); err != api.OK {
			t.Errorf("Check of %q = %d", name, err)
		}
	}
}

// P8.1: Check refuses what may not be.
func TestCheckRefuses(t *testing.T) {
	for name, l := range wrongLists() {
		if err := dir.Check(l); err != api.ErrState {
			t.Errorf("%s: Check = %d", name, err)
		}
	}
}

// P8.1, P8.2 and P4: all others answer Check's error first, whatever else is wrong, and nothing beside it.
func TestCheckFirst(t *testing.T) {
	for name, l := range wrongLists() {
		for _, e := range []dir.Entry{{}, {Name: "a", Ino: 1}, {Name: "a/b", Ino: 1}, {Name: "q", Ino: 0}, {Name: "n0b", Ino: 3}, {Name: ".", Ino: -1}, {Name: "zz", Ino: 5}} {
			ino, there, findErr := dir.Find(l, e.Name)
			added, addErr := dir.Add(l, e)
			removed, removeErr := dir.Remove(l, e.Name)
			if findErr != api.ErrState || addErr != api.ErrState || removeErr != api.ErrState {
				t.Errorf("%s, %v: Find %d, Add %d, Remove %d", name, e, findErr, addErr, removeErr)
			}
			if ino != 0 || there || len(added) != 0 || len(removed) != 0 {
				t.Errorf("%s, %v: an answer beside the error", name, e)
			}
		}
		if b, err := dir.Encode(l); err != api.ErrState || len(b) != 0 {
			t.Errorf("%s: Encode = %x, %d", name, b, err)
		}
	}
}

// P8.1: Find tells each entry's number, and that other names are not there.
func TestFind(t *testing.T) {
	for list, l := range rightLists() {
		m := modelOf(l)
		for _, name := range around(l) {
			want, wantThere := m[name]
			ino, there, err := dir.Find(l, name)
			if ino != want || there != wantThere || err != api.OK {
				t.Errorf("%s: Find(%q) = %d, %v, %d", list, name, ino, there, err)
			}
		}
	}
}

// P8.1: Add puts an entry in its place, or tells what is wrong with it, in the chapter's order.
func TestAdd(t *testing.T) {
	for list, l := range rightLists() {
		m := modelOf(l)
		for _, name := range around(l) {
			for _, ino := range []int{1, 9, highest, 0, -1, highest + 1, 1 << 32, math.MinInt, math.MaxInt} {
				e := dir.Entry{Name: name, Ino: ino}
				want, wantErr := m.add(e)
				if got, err := dir.Add(l, e); err != wantErr || !slices.Equal(got, want) {
					t.Fatalf("%s: Add(%q, %d) = %v, %d, want %d", list, name, ino, got, err, wantErr)
				}
			}
		}
	}
}

// P8.1: the errors of Add, one by one and together.
func TestAddErrors(t *testing.T) {
	full, one := made(most), named("a")
	for _, c := range []struct {
		l    []dir.Entry
		e    dir.Entry
		want api.Errno
	}{
		{full, dir.Entry{Name: "a/b", Ino: 0}, api.ErrName},
		{full, dir.Entry{Name: "a/b", Ino: 1}, api.ErrName},
		{full, dir.Entry{Name: full[3].Name, Ino: 0}, api.ErrRange},
		{full, dir.Entry{Name: full[3].Name, Ino: highest + 1}, api.ErrRange},
		{full, dir.Entry{Name: "new", Ino: 0}, api.ErrRange},
		{full, full[3], api.ErrExist},
		{full, full[most-1], api.ErrExist},
		{full, dir.Entry{Name: full[0].Name, Ino: 5}, api.ErrExist},
		{full, dir.Entry{Name: "new", Ino: 5}, api.ErrFull},
		{full, dir.Entry{Name: "a", Ino: 5}, api.ErrFull},
		{full, dir.Entry{Name: "z", Ino: 5}, api.ErrFull},
		{full[1:], dir.Entry{Name: "z", Ino: 5}, api.OK},
		{one, dir.Entry{}, api.ErrName},
		{one, dir.Entry{Name: "a"}, api.ErrRange},
		{one, dir.Entry{Name: "a", Ino: 2}, api.ErrExist},
		{nil, dir.Entry{Name: "..", Ino: highest}, api.ErrName},
		{nil, dir.Entry{Name: "...", Ino: highest}, api.OK},
	} {
		if got, err := dir.Add(c.l, c.e); err != c.want || err != api.OK && len(got) != 0 {
			t.Errorf("Add(%d entries, %v) = %v, %d, want %d", len(c.l), c.e, got, err, c.want)
		}
	}
}

// P8.1: Remove leaves the entry of a name out, or tells that there is none.
func TestRemove(t *testing.T) {
	for list, l := range rightLists() {
		m := modelOf(l)
		for _, name := range around(l) {
			want, wantErr := m.remove(name)
			if got, err := dir.Remove(l, name); err != wantErr || !slices.Equal(got, want) {
				t.Fatalf("%s: Remove(%q) = %v, %d, want %d", list, name, got, err, wantErr)
			}
		}
	}
}

// P8.1: example 1, and entries added in any order stand by name.
func TestAnyOrder(t *testing.T) {
	l, err := dir.Add(nil, dir.Entry{Name: "b", Ino: 2})
	if err != api.OK || !slices.Equal(l, []dir.Entry{{Name: "b", Ino: 2}}) {
		t.Fatalf("Add b: %v, %d", l, err)
	}
	l, err = dir.Add(l, dir.Entry{Name: "a", Ino: 3})
	if err != api.OK || !slices.Equal(l, []dir.Entry{{Name: "a", Ino: 3}, {Name: "b", Ino: 2}}) {
		t.Fatalf("Add a: %v, %d", l, err)
	}
	chance := rand.New(rand.NewSource(3))
	for range 50 {
		all := made(most)
		var got []dir.Entry
		for _, at := range chance.Perm(most) {
			if got, err = dir.Add(got, all[at]); err != api.OK {
				t.Fatalf("Add(%v): %d", all[at], err)
			}
		}
		if !slices.Equal(got, all) {
			t.Fatalf("in another order: %v", got)
		}
	}
}

// P8.2: the octets of entries, one by one.
func TestEncode(t *testing.T) {
	for want, l := range map[string][]dir.Entry{
		"":                                                nil,
		"\x01a\x00\x00\x00\x01":                           {{Name: "a", Ino: 1}},
		"\x01a\x01\x02\x03\x04":                           {{Name: "a", Ino: 0x01020304}},
		"\x01a\x7f\xff\xff\xff":                           {{Name: "a", Ino: highest}},
		"\x02\xff\x01\x00\x00\x01\x00":                    {{Name: "\xff\x01", Ino: 256}},
		"\x100123456789abcdef\x00\x01\x00\x00":            {{Name: "0123456789abcdef", Ino: 65536}},
		"\x02\xc3\xa9\x01\x00\x00\x00":                    {{Name: "é", Ino: 1 << 24}},
		"\x01a\x00\x00\x00\x03\x01b\x00\x00\x00\x02":      {{Name: "a", Ino: 3}, {Name: "b", Ino: 2}},
		"\x03...\x00\x00\x00\x09\x02.a\x00\x00\x00\x09":   {{Name: "...", Ino: 9}, {Name: ".a", Ino: 9}},
		"\x01a\x00\x00\x00\x01\x03a\x01b\x00\x00\x00\x01": {{Name: "a", Ino: 1}, {Name: "a\x01b", Ino: 1}},
	} {
		if got, err := dir.Encode(l); err != api.OK || string(got) != want {
			t.Errorf("Encode(%v) = %q, %d, want %q", l, got, err, want)
		}
		if got, err := dir.Decode([]byte(want)); err != api.OK || !slices.Equal(got, l) {
			t.Errorf("Decode(%q) = %v, %d", want, got, err)
		}
	}
	for name, l := range rightLists() {
		if got, err := dir.Encode(l); err != api.OK || !bytes.Equal(got, laid(l...)) {
			t.Errorf("%s: Encode = %x, %d", name, got, err)
		}
	}
	if b, err := dir.Encode([]dir.Entry{}); err != api.OK || len(b) != 0 {
		t.Errorf("Encode of an empty list = %x, %d", b, err)
	}
}

// P8.2: what is wrong with octets, and that they end ahead goes first.
func TestDecodeRefuses(t *testing.T) {
	const a, b = "\x01a\x00\x00\x00\x01", "\x01b\x00\x00\x00\x01"
	for form, want := range map[string]api.Errno{
		// They end ahead, in each place.
		"\x00":                             api.ErrShort,
		"\x00\x00\x00\x00":                 api.ErrShort,
		"\x01":                             api.ErrShort,
		"\x01a":                            api.ErrShort,
		"\x01a\x00\x00\x00":                api.ErrShort,
		"\x02a\x00\x00\x00\x01":            api.ErrShort,
		"\x10a\x00\x00\x00\x01":            api.ErrShort,
		"\x11":                             api.ErrShort,
		"\xff":                             api.ErrShort,
		a + "\x01":                         api.ErrShort,
		a + "\x00":                         api.ErrShort,
		a + b[:5]:                          api.ErrShort,
		"\xff" + string(make([]byte, 258)): api.ErrShort,
		// Ahead of entries that may not be, which stand in front.
		b + a + "\x01":                         api.ErrShort,
		a + a + "\x01c":                        api.ErrShort,
		"\x00\x00\x00\x00\x01\x01":             api.ErrShort,
		"\x01/\x00\x00\x00\x01\x01b":           api.ErrShort,
		"\x01a\x00\x00\x00\x00\x01b\x00":       api.ErrShort,
		"\x01a\x80\x00\x00\x00" + b[:5]:        api.ErrShort,
		string(laid(made(64)...)) + "\x01":     api.ErrShort,
		string(laid(made(64)...)) + a[:5]:      api.ErrShort,
		strings.Repeat(a, 5000) + "\x01":       api.ErrShort,
		"\x11" + strings.Repeat("a", 21) + "b": api.ErrShort,
		// Entries that may not be.
		"\x00\x00\x00\x00\x01":                             api.ErrState,
		"\x00\x00\x00\x00\x00":                             api.ErrState,
		"\x01/\x00\x00\x00\x01":                            api.ErrState,
		"\x01\x00\x00\x00\x00\x01":                         api.ErrState,
		"\x01.\x00\x00\x00\x01":                            api.ErrState,
		"\x02..\x00\x00\x00\x01":                           api.ErrState,
		"\x01a\x00\x00\x00\x00":                            api.ErrState,
		"\x01a\x80\x00\x00\x00":                            api.ErrState,
		"\x01a\x80\x00\x00\x01":                            api.ErrState,
		"\x01a\xff\xff\xff\xff":                            api.ErrState,
		a + a:                                              api.ErrState,
		b + a:                                              api.ErrState,
		a + b + a:                                          api.ErrState,
		a + "\x00\x00\x00\x00\x01":                         api.ErrState,
		"\x11" + strings.Repeat("a", 17) + a[2:]:           api.ErrState,
		"\xff" + strings.Repeat("a", 255) + a[2:]:          api.ErrState,
		"\xff" + string(make([]byte, 259)):                 api.ErrState,
		string(laid(made(64)...)):                          api.ErrState,
		string(laid(made(65)...)):                          api.ErrState,
		string(laid(made(63)...)) + a:                      api.ErrState,
		strings.Repeat(a, 5000):                            api.ErrState,
		string(make([]byte, 5*1000)):                       api.ErrState,
		string(laid(made(63)...)) + "\x00\x00\x00\x00\x00": api.ErrState,
	} {
		if got, err := dir.Decode([]byte(form)); err != want || len(got) != 0 {
			t.Errorf("Decode(%q) = %v, %d, want %d", form[:min(len(form), 40)], got, err, want)
		}
	}
}

// P8.2: every wrong name of up to 255 octets and every wrong number of 32 bits is one of entries that may not be; cut anywhere, it ends ahead.
func TestDecodeEachFault(t *testing.T) {
	var list []dir.Entry
	for _, name := range wrongNames() {
		if len(name) < 256 {
			list = append(list, dir.Entry{Name: name, Ino: 1})
		}
	}
	for _, ino := range []int{0, highest + 1, highest + 2, 0xfffffffe, 0xffffffff} {
		list = append(list, dir.Entry{Name: "a", Ino: ino})
	}
	for _, e := range list {
		b := laid(e)
		if got, err := dir.Decode(b); err != api.ErrState || len(got) != 0 {
			t.Errorf("Decode of %v = %v, %d", e, got, err)
		}
		for n := 1; n < len(b); n++ {
			if got, err := dir.Decode(b[:n]); err != api.ErrShort || len(got) != 0 {
				t.Errorf("Decode of %d octets of %v = %v, %d", n, e, got, err)
			}
		}
	}
}

// P8.2: cut between entries octets are those ahead; cut within one they end ahead.
func TestDecodeCut(t *testing.T) {
	for name, l := range rightLists() {
		b, ends := laid(l...), map[int]int{0: 0}
		for i := range l {
			ends[len(laid(l[:i+1]...))] = i + 1
		}
		for n := range len(b) + 1 {
			got, err := dir.Decode(b[:n])
			count, whole := ends[n]
			if whole && (err != api.OK || !slices.Equal(got, l[:count])) || !whole && (err != api.ErrShort || len(got) != 0) {
				t.Fatalf("%s: %d of %d octets: %v, %d", name, n, len(b), got, err)
			}
		}
	}
}

// P8.3: Decode of Encode is the entries.
func TestDecodeOfEncode(t *testing.T) {
	lists := rightLists()
	for _, name := range rightNames() {
		for _, ino := range rightInos() {
			lists[name+strconv.Itoa(ino)] = []dir.Entry{{Name: name, Ino: ino}}
		}
	}
	for name, l := range lists {
		b, err := dir.Encode(l)
		got, decodeErr := dir.Decode(b)
		if err != api.OK || decodeErr != api.OK || !slices.Equal(got, l) {
			t.Errorf("%q: Encode %d, Decode = %v, %d", name, err, got, decodeErr)
		}
	}
}

// checkDecode holds Decode of any octets to a plain reading of the chapter, and what it takes to P8.3.
func checkDecode(t *testing.T, b []byte) {
	t.Helper()
	var l []dir.Entry
	want := api.OK
	for at := 0; at < len(b); {
		end := at + 1 + int(b[at]) + 4
		if end > len(b) {
			want = api.ErrShort
			break
		}
		ino := int(b[end-4])<<24 | int(b[end-3])<<16 | int(b[end-2])<<8 | int(b[end-1])
		l = append(l, dir.Entry{Name: string(b[at+1 : end-4]), Ino: ino})
		at = end
	}
	for i, e := range l {
		if want == api.OK && (i >= most || !mayBe(e.Name) || !mayNumber(e.Ino) || i > 0 && e.Name <= l[i-1].Name) {
			want = api.ErrState
		}
	}
	got, err := dir.Decode(b)
	if want != api.OK {
		if err != want || len(got) != 0 {
			t.Fatalf("Decode(%q) = %v, %d, want %d", b, got, err, want)
		}
		return
	}
	if err != api.OK || !slices.Equal(got, l) {
		t.Fatalf("Decode(%q) = %v, %d", b, got, err)
	}
	if again, err := dir.Encode(got); err != api.OK || !bytes.Equal(again, b) {
		t.Fatalf("Encode of Decode(%q) = %q, %d", b, again, err)
	}
}

// P8.2 and P8.3: entries with some octets changed.
func TestDecodeChanged(t *testing.T) {
	chance := rand.New(rand.NewSource(8))
	lists := []([]dir.Entry){named("a"), named("a", "b"), made(3), made(62), made(most), named("...", "0123456789abcdef", "\xff")}
	for _, l := range lists {
		whole := laid(l...)
		for at := range min(len(whole), 30) {
			for octet := range 256 {
				b := slices.Clone(whole)
				b[at] = byte(octet)
				checkDecode(t, b)
			}
		}
		for range 3000 {
			b := slices.Clone(whole)
			for range chance.Intn(4) {
				b[chance.Intn(len(b))] = "\x00\x01\x02\x10\x11/.abz\x7f\x80\xff"[chance.Intn(13)]
			}
			checkDecode(t, b[:len(b)-chance.Intn(2)*chance.Intn(len(b))])
		}
	}
	for range 20000 {
		b := make([]byte, chance.Intn(24))
		for i := range b {
			b[i] = "\x00\x01\x02\x03/.ab\x80"[chance.Intn(9)]
		}
		checkDecode(t, b)
	}
}

// P8.4: Remove undoes Add, and Add undoes Remove.
func TestUndo(t *testing.T) {
	for list, l := range rightLists() {
		for _, name := range around(l) {
			added, err := dir.Add(l, dir.Entry{Name: name, Ino: 12})
			if err == api.OK {
				if got, err := dir.Remove(added, name); err != api.OK || !slices.Equal(got, l) {
					t.Errorf("%s: Remove of Add(%q) = %v, %d", list, name, got, err)
				}
			}
		}
		for _, e := range l {
			removed, err := dir.Remove(l, e.Name)
			if err != api.OK || len(removed) != len(l)-1 {
				t.Fatalf("%s: Remove(%q) = %v, %d", list, e.Name, removed, err)
			}
			if got, err := dir.Add(removed, e); err != api.OK || !slices.Equal(got, l) {
				t.Errorf("%s: Add of Remove(%q) = %v, %d", list, e.Name, got, err)
			}
		}
	}
}

// P8.1 to P8.4: scripts beside a model; what follows may always be.
func TestScripts(t *testing.T) {
	for seed := range 40 {
		chance := rand.New(rand.NewSource(int64(seed)))
		var l []dir.Entry
		for range 400 {
			octets := []byte{"\x01.abz\x80\xff"[chance.Intn(7)]}
			for range chance.Intn(3) {
				octets = append(octets, "/\x00.abcdef\xff"[chance.Intn(10)])
			}
			name := string(octets)
			e := dir.Entry{Name: name, Ino: chance.Intn(200) - 3}
			want, wantErr := modelOf(l).add(e)
			next, err := dir.Add(l, e)
			if chance.Intn(4) == 0 {
				want, wantErr = modelOf(l).remove(name)
				next, err = dir.Remove(l, name)
			}
			if err != wantErr || !slices.Equal(next, want) {
				t.Fatalf("seed %d, %v: %v, %d, want %d", seed, e, next, err, wantErr)
			}
			if err == api.OK {
				l = next
			}
			if err := dir.Check(l); err != api.OK {
				t.Fatalf("seed %d: Check of what follows = %d", seed, err)
			}
			checkDecode(t, laid(l...))
		}
	}
}

// span is where a list lies in memory, with the room behind it.
func span[T any](list []T) [2]uintptr {
	from := uintptr(unsafe.Pointer(unsafe.SliceData(list)))
	return [2]uintptr{from, from + uintptr(cap(list))*unsafe.Sizeof(*new(T))}
}

// apart tells whether no two of the spans overlap.
func apart(list [][2]uintptr) bool {
	list = slices.DeleteFunc(slices.Clone(list), func(s [2]uintptr) bool { return s[0] == s[1] })
	slices.SortFunc(list, func(a, b [2]uintptr) int { return slices.Compare(a[:], b[:]) })
	for i := range list {
		if i > 0 && list[i][0] < list[i-1][1] {
			return false
		}
	}
	return true
}

// roomy is l with room behind it, in which something stands.
func roomy[T any](l []T, behind ...T) []T {
	return append(slices.Clip(slices.Clone(l)), behind...)[:len(l)]
}

func whole[T any](l []T) []T {
	return slices.Clone(l[:cap(l)])
}

// P8.5: what is handed in is not changed, nor the room behind it.
func TestArgumentsStay(t *testing.T) {
	for name, list := range rightLists() {
		l := roomy(list, named("zz", "zzz", "a")...)
		b := roomy(laid(list...), []byte("behind it")...)
		entries, octets := whole(l), whole(b)
		for _, asked := range append(around(list), "zz") {
			dir.Name(asked)
			dir.Check(l)
			dir.Find(l, asked)
			dir.Add(l, dir.Entry{Name: asked, Ino: 5})
			dir.Remove(l, asked)
			dir.Encode(l)
			dir.Decode(b)
			if !slices.Equal(whole(l), entries) || !bytes.Equal(whole(b), octets) {
				t.Fatalf("%s, %q: an argument was changed", name, asked)
			}
		}
	}
}

// P8.5: the lists of answers share no memory with arguments nor with each other. (A name cannot be changed, so that two lists may have one.)
func TestAnswersApart(t *testing.T) {
	for name, list := range rightLists() {
		// All of them are held until they are looked at: memory that nobody holds comes back in later answers.
		entries := [][]dir.Entry{roomy(list, named("zz", "zzz")...)}
		octets := [][]byte{roomy(laid(list...), 1, 2, 3)}
		for range 2 {
			for _, asked := range around(list) {
				added, _ := dir.Add(entries[0], dir.Entry{Name: asked, Ino: 5})
				removed, _ := dir.Remove(entries[0], asked)
				entries = append(entries, added, removed)
			}
			decoded, _ := dir.Decode(octets[0])
			encoded, _ := dir.Encode(entries[0])
			entries, octets = append(entries, decoded), append(octets, encoded)
		}
		var all [][2]uintptr
		for _, l := range entries {
			all = append(all, span(l))
		}
		for _, b := range octets {
			all = append(all, span(b))
		}
		if !apart(all) {
			t.Errorf("%s: answers share memory", name)
		}
		runtime.KeepAlive(entries)
		runtime.KeepAlive(octets)
	}
}

// P8.5: writing over what was handed in, or over one answer, changes no other answer.
func TestAnswersStay(t *testing.T) {
	l := made(9)
	b := laid(l...)
	behind, _ := dir.Add(l, dir.Entry{Name: "z", Ino: 5})
	ahead, _ := dir.Add(l, dir.Entry{Name: "a", Ino: 5})
	removed, _ := dir.Remove(l, l[4].Name)
	last, _ := dir.Remove(l, l[8].Name)
	decoded, _ := dir.Decode(b)
	encoded, _ := dir.Encode(l)
	answers := [][]dir.Entry{behind, ahead, removed, last, decoded}
	var want [][]dir.Entry
	for _, answer := range answers {
		want = append(want, slices.Clone(answer))
	}
	octets := slices.Clone(encoded)
	clear(l)
	clear(b)
	for i, answer := range answers {
		if !slices.Equal(answer, want[i]) {
			t.Errorf("answer %d changed", i)
		}
		clear(answer)
	}
	if !bytes.Equal(encoded, octets) {
		t.Error("the octets changed")
	}
}

// P1: nil and empty lists are one to every call.
func TestNilAndEmpty(t *testing.T) {
	for _, l := range [][]dir.Entry{nil, {}} {
		ino, there, findErr := dir.Find(l, "a")
		removed, removeErr := dir.Remove(l, "a")
		added, addErr := dir.Add(l, dir.Entry{Name: "a", Ino: 1})
		b, encodeErr := dir.Encode(l)
		if dir.Check(l) != api.OK || ino != 0 || there || findErr != api.OK || len(removed) != 0 || removeErr != api.ErrNoEnt || !slices.Equal(added, named("a")) || addErr != api.OK || len(b) != 0 || encodeErr != api.OK {
			t.Errorf("%#v: %d, %d, %d, %d", l, findErr, removeErr, addErr, encodeErr)
		}
	}
	for _, b := range [][]byte{nil, {}} {
		if l, err := dir.Decode(b); err != api.OK || len(l) != 0 {
			t.Errorf("Decode(%#v) = %v, %d", b, l, err)
		}
	}
}

// P1: lists and octets far beyond the limits are refused, and end.
func TestGreat(t *testing.T) {
	l := make([]dir.Entry, 1<<20)
	if err := dir.Check(l); err != api.ErrState {
		t.Errorf("Check = %d", err)
	}
	if got, err := dir.Decode(make([]byte, 5<<20)); err != api.ErrState || len(got) != 0 {
		t.Errorf("Decode = %d entries, %d", len(got), err)
	}
	if got, err := dir.Decode(make([]byte, 5<<20+4)); err != api.ErrShort || len(got) != 0 {
		t.Errorf("Decode = %d entries, %d", len(got), err)
	}
	name := strings.Repeat("a", 1<<24)
	if err := dir.Name(name); err != api.ErrName {
		t.Errorf("Name = %d", err)
	}
	if ino, there, err := dir.Find(made(most), name); ino != 0 || there || err != api.OK {
		t.Errorf("Find = %d, %v, %d", ino, there, err)
	}
}

// P3: the same call answers the same again.
func TestAgain(t *testing.T) {
	run := func() []any {
		l := made(40)
		added, addErr := dir.Add(l, dir.Entry{Name: "n3", Ino: 7})
		removed, removeErr := dir.Remove(l, l[20].Name)
		b, encodeErr := dir.Encode(l)
		decoded, decodeErr := dir.Decode(b)
		ino, there, findErr := dir.Find(l, l[11].Name)
		return []any{added, addErr, removed, removeErr, b, encodeErr, decoded, decodeErr, ino, there, findErr}
	}
	first := run()
	for range 5 {
		if !reflect.DeepEqual(run(), first) {
			t.Fatal("the same calls answer otherwise")
		}
	}
}

// P1 and P4: entries of any kind bring no panic, and Check's error in every call.
func TestAnything(t *testing.T) {
	chance := rand.New(rand.NewSource(11))
	names := append(rightNames(), wrongNames()...)
	inos := append(rightInos(), wrongInos()...)
	entry := func() dir.Entry {
		return dir.Entry{Name: names[chance.Intn(len(names))], Ino: inos[chance.Intn(len(inos))]}
	}
	for range 20000 {
		var l []dir.Entry
		for range chance.Intn(5) {
			l = append(l, entry())
		}
		e := entry()
		want := api.OK
		for i, one := range l {
			if !mayBe(one.Name) || !mayNumber(one.Ino) || i > 0 && one.Name <= l[i-1].Name {
				want = api.ErrState
			}
		}
		err := dir.Check(l)
		_, _, findErr := dir.Find(l, e.Name)
		_, addErr := dir.Add(l, e)
		_, removeErr := dir.Remove(l, e.Name)
		_, encodeErr := dir.Encode(l)
		if err != want || findErr != want || encodeErr != want || want != api.OK && (addErr != want || removeErr != want) {
			t.Fatalf("%v: Check %d, Find %d, Add %d, Remove %d, Encode %d", l, err, findErr, addErr, removeErr, encodeErr)
		}
	}
}

// P8.1: whatever comes, Name and Add answer by the chapter's words.
func FuzzAdd(f *testing.F) {
	f.Add("a", 1, uint(3))
	f.Add("a/b", 0, uint(63))
	f.Add("n0d", highest+1, uint(62))
	f.Add("\xff", highest, uint(63))
	f.Fuzz(func(t *testing.T, name string, ino int, count uint) {
		l := made(int(count % (most + 1)))
		if (dir.Name(name) == api.OK) != mayBe(name) {
			t.Fatalf("Name(%q) = %d", name, dir.Name(name))
		}
		e := dir.Entry{Name: name, Ino: ino}
		want, wantErr := modelOf(l).add(e)
		if got, err := dir.Add(l, e); err != wantErr || !slices.Equal(got, want) {
			t.Fatalf("Add(%v) = %v, %d, want %d", e, got, err, wantErr)
		}
	})
}

// P8.2 and P8.3: whatever octets come, Decode answers by the chapter's words.
func FuzzDecode(f *testing.F) {
	f.Add([]byte{})
	f.Add(laid(named("a", "b")...))
	f.Add(laid(made(most)...))
	f.Add(laid(made(most + 1)...))
	f.Add([]byte("\x01/\x00\x00\x00\x01\x01"))
	f.Fuzz(func(t *testing.T, b []byte) { checkDecode(t, b) })
}
