package path_test

import (
	"math/rand"
	"reflect"
	"runtime"
	"slices"
	"strconv"
	"strings"
	"testing"
	"unsafe"

	"undercroft/api"
	"undercroft/path"
)

// The faces keep the signatures of the chapter.
var (
	_ func(string) ([]string, api.Errno)       = path.Split
	_ func([]string) (string, api.Errno)       = path.Join
	_ func(string) (string, string, api.Errno) = path.Parent
	_ func(string, string) (bool, api.Errno)   = path.Within
)

const (
	longestName = 16
	longestPath = 128
	deepest     = 8
)

// rightNames holds names that may be, at the edges and of octets that are no letters.
func rightNames() []string {
	return []string{
		"a", "b", "ab", "A", "a.", ".a", "...", "..a", " ", "-", "~", "\\", "\x01", "\x7f", "\x80", "\xff", "é", "日本", "\xe6\x97", "\u2215", "\xc0\xaf",
		"a b", "a\nb", "0123456789abcdef", strings.Repeat(".", longestName), strings.Repeat("\xff", longestName), strings.Repeat("é", longestName/2),
	}
}

// wrongParts holds names that may not be, and that a path can have: they are not empty and have no slash.
func wrongParts() []string {
	return []string{
		".", "..", "\x00", "a\x00", "\x00a", "a\x00b", ".\x00", "0123456789abcde\x00",
		"0123456789abcdefg", strings.Repeat(".", longestName+1), strings.Repeat("é", longestName/2) + "a",
	}
}

// wrongNames holds names that may not be.
func wrongNames() []string {
	return append(wrongParts(), "", "/", "//", "a/b", "/a", "a/", "./", "../", "a/.", "0123456789abcde/", strings.Repeat("a", 127), strings.Repeat("b", 128), strings.Repeat("c", 129), strings.Repeat("d", 1<<16))
}

// numbered is n names of so many octets each.
func numbered(n, length int) []string {
	var l []string
	for i := range n {
		l = append(l, strings.Repeat(string(rune('a'+i%26)), length))
	}
	return l
}

// plain is / and the names with / between, whatever they are.
func plain(names ...string) string {
	s := "/"
	for i, name := range names {
		if i > 0 {
			s += "/"
		}
		s += name
	}
	return s
}

// longest is a path of 128 octets; its eight names have 15 octets each.
func longest() string {
	return plain(numbered(deepest, longestName-1)...)
}

// rightPaths holds paths, and their names.
func rightPaths() map[string][]string {
	all := map[string][]string{
		"/":                              nil,
		"//":                             nil,
		"///":                            nil,
		strings.Repeat("/", longestPath): nil,
		"/a":                             {"a"},
		"/a/":                            {"a"},
		"//a":                            {"a"},
		"//a//":                          {"a"},
		"/a/b":                           {"a", "b"},
		"/a//b/":                         {"a", "b"},
		"///a///b///":                    {"a", "b"},
		"/b/a":                           {"b", "a"},
		"/a/a/a":                         {"a", "a", "a"},
		"/ab/a/abc":                      {"ab", "a", "abc"},
		"/.../.a/a./..a":                 {"...", ".a", "a.", "..a"},
		"/ /a b":                         {" ", "a b"},
		"/a\\b":                          {"a\\b"},
		"/a/b/c/d/e/f/g/h":               numbered(8, 1),
		"/a/b/c/d/e/f/g/h/":              numbered(8, 1),
		"//a//b//c//d//e//f//g//h//":     numbered(8, 1),
		longest():                        numbered(8, 15),
		"/" + strings.Repeat("/", longestPath-2) + "a":  {"a"},
		"/a" + strings.Repeat("/", longestPath-2):       {"a"},
		"/a" + strings.Repeat("/", longestPath-3) + "b": {"a", "b"},
		plain(append(numbered(7, 16), "01234567")...):   append(numbered(7, 16), "01234567"),
		plain(numbered(7, 16)...) + "////":              numbered(7, 16),
	}
	for n := range deepest + 1 {
		all[plain(numbered(n, 2)...)] = numbered(n, 2)
	}
	for _, name := range rightNames() {
		all["/"+name] = []string{name}
		all["/"+name+"/"+name+"/"] = []string{name, name}
	}
	return all
}

// wrongPaths holds what is no path, and what is told of it.
func wrongPaths() map[string]api.Errno {
	all := map[string]api.Errno{
		// It does not begin with a slash.
		"": api.ErrName, "a": api.ErrName, "a/": api.ErrName, "a/b": api.ErrName, " /a": api.ErrName, "./a": api.ErrName, "../a": api.ErrName, ".": api.ErrName, "..": api.ErrName, "\\a": api.ErrName, "\x00": api.ErrName, "\x00/a": api.ErrName, "\u2215a": api.ErrName, "\xc0\xaf": api.ErrName, "\xff/": api.ErrName,
		strings.Repeat("a", longestPath):         api.ErrName,
		longest()[1:]:                            api.ErrName,
		"a" + strings.Repeat("/", longestPath-1): api.ErrName,
		"a/b/c/d/e/f/g/h/i":                      api.ErrName,
		"a/b/c/d/e/f/g/h/i/j":                    api.ErrName,
		// It has too many names.
		"/a/b/c/d/e/f/g/h/i":      api.ErrLong,
		"/a/b/c/d/e/f/g/h/i/":     api.ErrLong,
		"/a/b/c/d/e/f/g/h//i":     api.ErrLong,
		"/a/a/a/a/a/a/a/a/a":      api.ErrLong,
		strings.Repeat("/a", 64):  api.ErrLong,
		plain(numbered(9, 13)...): api.ErrLong,
		plain(numbered(10, 1)...): api.ErrLong,
		// It has too many octets, whatever else it is.
		longest() + "/":                               api.ErrLong,
		"/" + longest():                               api.ErrLong,
		longest() + "a":                               api.ErrLong,
		plain(numbered(8, 16)...):                     api.ErrLong,
		strings.Repeat("/", longestPath+1):            api.ErrLong,
		strings.Repeat("a", longestPath+1):            api.ErrLong,
		strings.Repeat("\x00", longestPath+1):         api.ErrLong,
		strings.Repeat("/.", longestPath/2) + "/":     api.ErrLong,
		strings.Repeat("/..", longestPath):            api.ErrLong,
		strings.Repeat("/a", longestPath):             api.ErrLong,
		"/a" + strings.Repeat("/", longestPath-1):     api.ErrLong,
		strings.Repeat("/a/b", 1<<16):                 api.ErrLong,
		strings.Repeat("é", longestPath/2) + "a":      api.ErrLong,
		"/" + strings.Repeat("é", longestPath/2):      api.ErrLong,
		plain(numbered(7, 16)...) + "/" + "012345678": api.ErrLong,
		// One of its names may not be, and nothing goes ahead of it.
		"/" + strings.Repeat("a", longestPath-1): api.ErrName,
		strings.Repeat("/.", longestPath/2):      api.ErrName,
		strings.Repeat("/a", 63) + "/.":          api.ErrName,
		"/." + strings.Repeat("/a", 63):          api.ErrName,
		"/./":                                    api.ErrName,
		"/../":                                   api.ErrName,
		"//.":                                    api.ErrName,
		"//..//":                                 api.ErrName,
	}
	for _, part := range wrongParts() {
		for n := range 3 * deepest {
			for at := range n {
				names := numbered(n, 1)
				names[at] = part
				all[plain(names...)] = api.ErrName
			}
		}
	}
	return all
}

// mayBe reads the words of chapter 8 of a name, octet by octet.
func mayBe(name string) bool {
	if len(name) < 1 || len(name) > longestName || name == "." || name == ".." {
		return false
	}
	for i := range len(name) {
		if name[i] == 0 || name[i] == '/' {
			return false
		}
	}
	return true
}

// between is the parts of s between slashes, the empty ones left out.
func between(s string) []string {
	var l []string
	from := 0
	for at := range len(s) + 1 {
		if at == len(s) || s[at] == '/' {
			if from < at {
				l = append(l, s[from:at])
			}
			from = at + 1
		}
	}
	return l
}

// readSplit is what Split answers, by the chapter's words.
func readSplit(s string) ([]string, api.Errno) {
	if len(s) > longestPath {
		return nil, api.ErrLong
	}
	if len(s) == 0 || s[0] != '/' {
		return nil, api.ErrName
	}
	names := between(s)
	for _, name := range names {
		if !mayBe(name) {
			return nil, api.ErrName
		}
	}
	if len(names) > deepest {
		return nil, api.ErrLong
	}
	return names, api.OK
}

// readJoin is what Join answers, by the chapter's words.
func readJoin(l []string) (string, api.Errno) {
	for _, name := range l {
		if !mayBe(name) {
			return "", api.ErrName
		}
	}
	if len(l) > deepest || len(plain(l...)) > longestPath {
		return "", api.ErrLong
	}
	return plain(l...), api.OK
}

// short is how an argument is told, however long it is.
func short(s string) string {
	return strconv.Quote(s[:min(len(s), 40)]) + " of " + strconv.Itoa(len(s))
}

// P9.1: Split tells the names of a path.
func TestSplit(t *testing.T) {
	for s, want := range rightPaths() {
		if l, err := path.Split(s); err != api.OK || !slices.Equal(l, want) {
			t.Errorf("Split(%s) = %q, %d, want %q", short(s), l, err, want)
		}
	}
}

// P9.1 and P4: Split refuses what is no path, by the first error, with no names beside it.
func TestSplitRefuses(t *testing.T) {
	for s, want := range wrongPaths() {
		if l, err := path.Split(s); err != want || len(l) != 0 {
			t.Errorf("Split(%s) = %q, %d, want %d", short(s), l, err, want)
		}
	}
}

// P9.1: a path of each length, of slashes, of one name, of as many names as can be.
func TestSplitLengths(t *testing.T) {
	for n := range 3 * longestPath {
		for _, s := range []string{
			strings.Repeat("/", n),
			strings.Repeat("/a", n)[:n],
			strings.Repeat("/abcdefghijklmno", n)[:n],
			strings.Repeat("/abcdefghijklmnop", n)[:n],
			strings.Repeat("a/", n)[:n],
			("/" + strings.Repeat("a", n))[:n],
			"/a" + strings.Repeat("/", n),
		} {
			checkSplit(t, s)
		}
	}
}

// checkSplit holds Split, Parent and what follows of any text to a plain reading of the chapter.
func checkSplit(t *testing.T, s string) {
	t.Helper()
	want, wantErr := readSplit(s)
	l, err := path.Split(s)
	if err != wantErr || !slices.Equal(l, want) {
		t.Fatalf("Split(%s) = %q, %d, want %q, %d", short(s), l, err, want, wantErr)
	}
	checkParent(t, s)
	if err != api.OK {
		return
	}
	joined, err := path.Join(l)
	if err != api.OK || joined != plain(want...) {
		t.Fatalf("Join of Split(%s) = %q, %d", short(s), joined, err)
	}
	if again, err := path.Split(joined); err != api.OK || !slices.Equal(again, l) {
		t.Fatalf("Split of Join of Split(%s) = %q, %d", short(s), again, err)
	}
}

// checkParent holds Parent of any text to a plain reading of the chapter.
func checkParent(t *testing.T, s string) {
	t.Helper()
	wantParent, wantName := "", ""
	names, wantErr := readSplit(s)
	if wantErr == api.OK && len(names) == 0 {
		wantErr = api.ErrInval
	}
	if wantErr == api.OK {
		wantParent, wantName = plain(names[:len(names)-1]...), names[len(names)-1]
	}
	if parent, name, err := path.Parent(s); parent != wantParent || name != wantName || err != wantErr {
		t.Fatalf("Parent(%s) = %q, %q, %d, want %q, %q, %d", short(s), parent, name, err, wantParent, wantName, wantErr)
	}
}

// texts calls f with all texts of up to n of these octets.
func texts(octets string, n int, f func(string)) {
	var more func(s string)
	more = func(s string) {
		f(s)
		if len(s) < n {
			for i := range len(octets) {
				more(s + octets[i:i+1])
			}
		}
	}
	more("")
}

// P9.1 and P9.2: all short texts of slashes, dots, letters and zeros.
func TestShort(t *testing.T) {
	texts("/.a\x00", 7, func(s string) { checkSplit(t, s) })
	texts("/a", 14, func(s string) { checkSplit(t, s) })
	texts("/a", 4, func(s string) { checkSplit(t, "/a/b/c/d/e/f"+s) })
	texts("/.a", 7, func(s string) { checkSplit(t, longest()[:122]+s) })
}

// P9.1: every octet in every place of a path.
func TestEachOctet(t *testing.T) {
	for _, s := range []string{"/a", "/a/b", "/ab/", "//..a", "/0123456789abcdef/a", "/0123456789abcdefg", "/a/b/c/d/e/f/g/h", "/a/b/c/d/e/f/g/h.i", longest(), longest() + "a"} {
		for at := range len(s) {
			for octet := range 256 {
				b := []byte(s)
				b[at] = byte(octet)
				checkSplit(t, string(b))
			}
		}
	}
}

// P9.1: Join tells the path of its names.
func TestJoin(t *testing.T) {
	for want, l := range map[string][]string{
		"/":                nil,
		"/a":               {"a"},
		"/a/b":             {"a", "b"},
		"/b/a":             {"b", "a"},
		"/a/a":             {"a", "a"},
		"/.../a./ ":        {"...", "a.", " "},
		"/a/b/c/d/e/f/g/h": numbered(8, 1),
		longest():          numbered(8, 15),
		plain(append(numbered(7, 16), "01234567")...):              append(numbered(7, 16), "01234567"),
		plain(append([]string{"01234567"}, numbered(7, 16)...)...): append([]string{"01234567"}, numbered(7, 16)...),
	} {
		if s, err := path.Join(l); err != api.OK || s != want {
			t.Errorf("Join(%q) = %q, %d, want %q", l, s, err, want)
		}
	}
	for _, name := range rightNames() {
		if s, err := path.Join([]string{name, "b", name}); err != api.OK || s != "/"+name+"/b/"+name {
			t.Errorf("Join with %q = %q, %d", name, s, err)
		}
	}
}

// P9.1 and P4: Join refuses a name that may not be ahead of too many names or octets, and answers nothing beside it.
func TestJoinRefuses(t *testing.T) {
	for _, name := range wrongNames() {
		for n := range 3 * deepest {
			for at := range n {
				for _, length := range []int{1, longestName} {
					l := numbered(n, length)
					l[at] = name
					if s, err := path.Join(l); err != api.ErrName || s != "" {
						t.Errorf("Join of %d names with %s = %q, %d", n, short(name), s, err)
					}
				}
			}
		}
	}
	for _, l := range [][]string{
		numbered(9, 1), numbered(10, 1), numbered(64, 1), numbered(100, 1), numbered(9, 16), numbered(256, 1), numbered(264, 16), numbered(1<<16, 1), numbered(1<<16+3, 1),
		numbered(8, 16),
		append(numbered(7, 16), "012345678"),
		append([]string{"012345678"}, numbered(7, 16)...),
		append(numbered(7, 15), "0123456789abcdef"),
		append([]string{"0123456789abcdef"}, numbered(7, 15)...),
	} {
		if s, err := path.Join(l); err != api.ErrLong || s != "" {
			t.Errorf("Join of %d names = %q, %d", len(l), s, err)
		}
	}
}

// P9.1 and P9.2: names of every count and every length.
func TestJoinLengths(t *testing.T) {
	for n := range 2 * deepest {
		for length := range longestName + 3 {
			for last := range longestName + 3 {
				l := numbered(n, length)
				if n > 0 {
					l[n-1] = strings.Repeat("z", last)
				}
				checkJoin(t, l)
			}
		}
	}
}

// checkJoin holds Join of any names, and Split of it, to a plain reading of the chapter.
func checkJoin(t *testing.T, l []string) {
	t.Helper()
	want, wantErr := readJoin(l)
	s, err := path.Join(l)
	if err != wantErr || s != want {
		t.Fatalf("Join(%q) = %q, %d, want %q, %d", l, s, err, want, wantErr)
	}
	if err != api.OK {
		return
	}
	if names, err := path.Split(s); err != api.OK || !slices.Equal(names, l) {
		t.Fatalf("Split of Join(%q) = %q, %d", l, names, err)
	}
}

// P9.1: Parent tells the path of all names but the last one, made plain, and the last one.
func TestParent(t *testing.T) {
	for s, want := range map[string][2]string{
		"/a":                                     {"/", "a"},
		"/a/":                                    {"/", "a"},
		"//a//":                                  {"/", "a"},
		"/a/b":                                   {"/a", "b"},
		"/a//b/":                                 {"/a", "b"},
		"//a///b/c":                              {"/a/b", "c"},
		"/b/a/a":                                 {"/b/a", "a"},
		"/a/b/c/d/e/f/g/h":                       {"/a/b/c/d/e/f/g", "h"},
		longest():                                {longest()[:112], strings.Repeat("h", 15)},
		strings.Repeat("/", longestPath-1) + "a": {"/", "a"},
		"/a" + strings.Repeat("/", longestPath-2):       {"/", "a"},
		"/a" + strings.Repeat("/", longestPath-3) + "b": {"/a", "b"},
	} {
		if parent, name, err := path.Parent(s); parent != want[0] || name != want[1] || err != api.OK {
			t.Errorf("Parent(%s) = %q, %q, %d, want %q", short(s), parent, name, err, want)
		}
	}
	for s := range rightPaths() {
		checkParent(t, s)
	}
}

// P9.1 and P4: Parent refuses the root, and what Split refuses, with nothing beside it.
func TestParentRefuses(t *testing.T) {
	for _, s := range []string{"/", "//", "///", strings.Repeat("/", longestPath)} {
		if parent, name, err := path.Parent(s); parent != "" || name != "" || err != api.ErrInval {
			t.Errorf("Parent(%s) = %q, %q, %d", short(s), parent, name, err)
		}
	}
	for s, want := range wrongPaths() {
		if parent, name, err := path.Parent(s); parent != "" || name != "" || err != want {
			t.Errorf("Parent(%s) = %q, %q, %d, want %d", short(s), parent, name, err, want)
		}
	}
}

// P9.1: Within goes by names, not by octets.
func TestWithin(t *testing.T) {
	for pair, want := range map[[2]string]bool{
		{"/", "/"}:                               true,
		{"/", "//"}:                              true,
		{"///", "/"}:                             true,
		{"/", "/a"}:                              true,
		{"/", "/a/b/c/d/e/f/g/h"}:                true,
		{"/a", "/"}:                              false,
		{"/a", "/a"}:                             true,
		{"/a", "/a/"}:                            true,
		{"/a/", "/a"}:                            true,
		{"//a//", "/a/b"}:                        true,
		{"/a", "/b"}:                             false,
		{"/a", "/a/b"}:                           true,
		{"/a/b", "/a"}:                           false,
		{"/a/b", "//a//b//c"}:                    true,
		{"/a", "/ab"}:                            false,
		{"/ab", "/a"}:                            false,
		{"/a", "/ab/a"}:                          false,
		{"/a/b", "/a/bc"}:                        false,
		{"/a/b", "/ab"}:                          false,
		{"/ab", "/a/b"}:                          false,
		{"/b", "/a/b"}:                           false,
		{"/a/b", "/b/a"}:                         false,
		{"/a/c", "/a/b/c"}:                       false,
		{"/a", "/A/b"}:                           false,
		{"/b/a", "/a/a"}:                         false,
		{"/a/b", "/a/c/b"}:                       false,
		{"/é", "/é/a"}:                           true,
		{"/\xc3", "/é"}:                          false,
		{longest(), longest()}:                   true,
		{longest()[:112], longest()}:             true,
		{longest(), longest()[:112]}:             false,
		{longest()[:127], longest()}:             false,
		{"/a/b/c/d/e/f/g", "/a/b/c/d/e/f/g/h"}:   true,
		{"/a/b/c/d/e/f/g/h", "/a/b/c/d/e/f/g/h"}: true,
		{"/a/b/c/d/e/f/g/i", "/a/b/c/d/e/f/g/h"}: false,
	} {
		if in, err := path.Within(pair[0], pair[1]); in != want || err != api.OK {
			t.Errorf("Within(%q, %q) = %v, %d", pair[0], pair[1], in, err)
		}
	}
}

// P9.1: all pairs of short paths, right and wrong, and of the others here.
func TestWithinPairs(t *testing.T) {
	var list []string
	texts("/ab.", 4, func(s string) { list = append(list, s) })
	for s := range rightPaths() {
		list = append(list, s)
	}
	for _, a := range list {
		for _, b := range list {
			checkWithin(t, a, b)
		}
	}
}

// checkWithin holds Within of any texts to a plain reading of the chapter.
func checkWithin(t *testing.T, a, b string) {
	t.Helper()
	outer, wantErr := readSplit(a)
	inner, innerErr := readSplit(b)
	if wantErr == api.OK {
		wantErr = innerErr
	}
	want := wantErr == api.OK && len(outer) <= len(inner)
	for i := range outer {
		want = want && outer[i] == inner[i]
	}
	if in, err := path.Within(a, b); in != want || err != wantErr {
		t.Fatalf("Within(%s, %s) = %v, %d, want %v, %d", short(a), short(b), in, err, want, wantErr)
	}
}

// P9.1 and P4: Within answers Split's errors, all of a's ahead of b's, and a false beside them.
func TestWithinRefuses(t *testing.T) {
	wrong := wrongPaths()
	some := []string{"", "a", "/.", "/\x00", "/a/b/c/d/e/f/g/h/i", longest() + "/", strings.Repeat("a", longestPath+1), "/a/.."}
	for s, want := range wrong {
		for _, right := range []string{"/", "/a", "/a/b", longest()} {
			if in, err := path.Within(s, right); in || err != want {
				t.Errorf("Within(%s, %s) = %v, %d, want %d", short(s), short(right), in, err, want)
			}
			if in, err := path.Within(right, s); in || err != want {
				t.Errorf("Within(%s, %s) = %v, %d, want %d", short(right), short(s), in, err, want)
			}
		}
		if in, err := path.Within(s, s); in || err != want {
			t.Errorf("Within(%s, itself) = %v, %d, want %d", short(s), in, err, want)
		}
		for _, other := range some {
			if in, err := path.Within(s, other); in || err != want {
				t.Errorf("Within(%s, %s) = %v, %d, want %d", short(s), short(other), in, err, want)
			}
		}
	}
	if _, err := path.Within("a", strings.Repeat("/", longestPath+1)); err != api.ErrName {
		t.Errorf("a's error is told behind b's: %d", err)
	}
	if _, err := path.Within(plain(numbered(9, 1)...), "b"); err != api.ErrLong {
		t.Errorf("a's last error is told behind b's first: %d", err)
	}
}

// P9.2: Split of Join is the names.
func TestSplitOfJoin(t *testing.T) {
	for _, l := range rightPaths() {
		checkJoin(t, l)
	}
	for _, name := range append(rightNames(), wrongNames()...) {
		for _, other := range append(rightNames(), wrongNames()...) {
			checkJoin(t, []string{name, other})
			checkJoin(t, []string{other, "a", name})
		}
	}
}

// P9.2: Join of Split is the path, made plain: what is plain stays as it is.
func TestJoinOfSplit(t *testing.T) {
	for s, names := range rightPaths() {
		checkSplit(t, s)
		l, _ := path.Split(plain(names...))
		if got, err := path.Join(l); err != api.OK || got != plain(names...) {
			t.Errorf("%s: Join of Split = %q, %d", short(s), got, err)
		}
	}
}

// P9.1 and P9.2: Parent's answers, joined again, are the path.
func TestParentLiesAbove(t *testing.T) {
	for s, names := range rightPaths() {
		parent, name, err := path.Parent(s)
		if err != api.OK {
			continue
		}
		if in, err := path.Within(parent, s); !in || err != api.OK {
			t.Errorf("Within(%q, %s) = %v, %d", parent, short(s), in, err)
		}
		if in, err := path.Within(s, parent); in || err != api.OK {
			t.Errorf("Within(%s, %q) = %v, %d", short(s), parent, in, err)
		}
		if l, err := path.Split(parent + "/" + name); err != api.OK || !slices.Equal(l, names) {
			t.Errorf("Parent(%s) = %q, %q", short(s), parent, name)
		}
	}
}

// P9.1 and P9.2: texts and names by chance, about the edges.
func TestChance(t *testing.T) {
	chance := rand.New(rand.NewSource(9))
	names := append(rightNames(), wrongParts()...)
	some := func() []string {
		var l []string
		for range chance.Intn(deepest + 3) {
			name := numbered(26, 1+chance.Intn(longestName))[chance.Intn(26)]
			if chance.Intn(20) == 0 {
				name = names[chance.Intn(len(names))]
			}
			l = append(l, name)
		}
		return l
	}
	for range 30000 {
		l := some()
		checkJoin(t, l)
		s := ""
		for _, name := range l {
			s += strings.Repeat("/", 1+chance.Intn(3)*chance.Intn(2)) + name
		}
		s += strings.Repeat("/", chance.Intn(2)*chance.Intn(40))
		checkSplit(t, s)
		checkWithin(t, s, plain(append(l[:chance.Intn(len(l)+1)], some()...)...))
		checkWithin(t, plain(l[:chance.Intn(len(l)+1)]...), s)
	}
}

// P9.3: what is handed in is not changed, nor the room behind it.
func TestArgumentsStay(t *testing.T) {
	lists := [][]string{nil, {}, {"a"}, {"a/b"}, numbered(7, 1), numbered(8, 15), numbered(8, 16), numbered(9, 1)}
	for _, list := range lists {
		l := append(slices.Clip(slices.Clone(list)), "behind", "it")[:len(list)]
		all := slices.Clone(l[:cap(l)])
		path.Join(l)
		if !slices.Equal(l[:cap(l)], all) {
			t.Errorf("Join changed its argument %q", list)
		}
	}
	for s := range rightPaths() {
		same := strings.Clone(s)
		path.Split(s)
		path.Parent(s)
		path.Within(s, s)
		if s != same {
			t.Errorf("%q was changed", same)
		}
	}
}

// textSpan is where a text lies in memory.
func textSpan(s string) [2]uintptr {
	from := uintptr(unsafe.Pointer(unsafe.StringData(s)))
	return [2]uintptr{from, from + uintptr(len(s))}
}

// listSpan is where a list lies in memory, with the room behind it.
func listSpan(l []string) [2]uintptr {
	from := uintptr(unsafe.Pointer(unsafe.SliceData(l)))
	return [2]uintptr{from, from + uintptr(cap(l))*unsafe.Sizeof("")}
}

// apart tells whether no two of the spans overlap.
func apart(list [][2]uintptr) bool {
	list = slices.DeleteFunc(slices.Clone(list), func(s [2]uintptr) bool { return s[0] == s[1] })
	slices.SortFunc(list, func(a, b [2]uintptr) int { return slices.Compare(a[:], b[:]) })
	for i := range list {
		if i > 0 && list[i][0] < list[i-1][1] {
			return false
		}
	}
	return true
}

// P9.3: the lists and the texts of answers share no memory with arguments nor with each other. (But for the root, which is one constant.)
func TestAnswersApart(t *testing.T) {
	for s := range rightPaths() {
		// All of them are held until they are looked at: memory that nobody holds comes back in later answers.
		held := []string{strings.Clone(s)}
		var lists [][]string
		for range 3 {
			l, _ := path.Split(held[0])
			joined, _ := path.Join(l)
			parent, name, _ := path.Parent(held[0])
			lists = append(lists, l)
			held = append(append(held, joined, parent, name), l...)
		}
		var all [][2]uintptr
		for i, text := range held {
			if i == 0 || text != "/" {
				all = append(all, textSpan(text))
			}
		}
		for _, l := range lists {
			all = append(all, listSpan(l))
		}
		if !apart(all) {
			t.Errorf("%s: answers share memory", short(s))
		}
		runtime.KeepAlive(held)
		runtime.KeepAlive(lists)
	}
}

// P9.3: Join's path shares no memory with its names, not even with one alone.
func TestJoinApart(t *testing.T) {
	for _, list := range [][]string{{"a"}, {"abc"}, {"a", "b"}, numbered(8, 15)} {
		held := slices.Clone(list)
		for i := range held {
			held[i] = strings.Clone(held[i])
		}
		first, _ := path.Join(held)
		second, _ := path.Join(held)
		all := [][2]uintptr{textSpan(first), textSpan(second)}
		for _, name := range held {
			all = append(all, textSpan(name))
		}
		if !apart(all) {
			t.Errorf("Join(%q) shares memory", list)
		}
		runtime.KeepAlive([]any{held, first, second})
	}
}

// P9.3: writing over one answer changes no other one.
func TestAnswersStay(t *testing.T) {
	first, _ := path.Split("/a/b/c")
	second, _ := path.Split("/a/b/c")
	joined, _ := path.Join(first)
	clear(first)
	if !slices.Equal(second, []string{"a", "b", "c"}) || joined != "/a/b/c" {
		t.Errorf("another answer changed: %q, %q", second, joined)
	}
}

// P1: nil and empty lists are one.
func TestNilAndEmpty(t *testing.T) {
	for _, l := range [][]string{nil, {}} {
		if s, err := path.Join(l); s != "/" || err != api.OK {
			t.Errorf("Join(%#v) = %q, %d", l, s, err)
		}
	}
}

// P1: texts and lists far beyond the limits are refused, and end.
func TestGreat(t *testing.T) {
	for s, want := range map[string]api.Errno{
		strings.Repeat("/", 1<<24):    api.ErrLong,
		strings.Repeat("/a", 1<<23):   api.ErrLong,
		strings.Repeat("\x00", 1<<24): api.ErrLong,
	} {
		_, splitErr := path.Split(s)
		_, _, parentErr := path.Parent(s)
		_, withinErr := path.Within(s, s)
		_, behindErr := path.Within("/", s)
		if splitErr != want || parentErr != want || withinErr != want || behindErr != want {
			t.Errorf("%s: Split %d, Parent %d, Within %d, %d", short(s), splitErr, parentErr, withinErr, behindErr)
		}
	}
	l := numbered(1<<20, 1)
	if s, err := path.Join(l); s != "" || err != api.ErrLong {
		t.Errorf("Join = %s, %d", short(s), err)
	}
	l[len(l)-1] = strings.Repeat("a", 1<<24)
	if s, err := path.Join(l); s != "" || err != api.ErrName {
		t.Errorf("Join = %s, %d", short(s), err)
	}
}

// P3: the same call answers the same again.
func TestAgain(t *testing.T) {
	run := func() []any {
		l, splitErr := path.Split("//a/b//c/")
		s, joinErr := path.Join(l)
		parent, name, parentErr := path.Parent("//a/b//c/")
		in, withinErr := path.Within("/a/b", "//a/b//c/")
		return []any{l, splitErr, s, joinErr, parent, name, parentErr, in, withinErr}
	}
	first := run()
	for range 5 {
		if !reflect.DeepEqual(run(), first) {
			t.Fatal("the same calls answer otherwise")
		}
	}
}

// Example 1 of the chapter.
func TestExample(t *testing.T) {
	l, err := path.Split("/a//b/")
	if err != api.OK || !slices.Equal(l, []string{"a", "b"}) {
		t.Errorf("Split = %q, %d", l, err)
	}
	if parent, name, err := path.Parent("/a/b"); parent != "/a" || name != "b" || err != api.OK {
		t.Errorf("Parent = %q, %q, %d", parent, name, err)
	}
	if parent, name, err := path.Parent("/a"); parent != "/" || name != "a" || err != api.OK {
		t.Errorf("Parent = %q, %q, %d", parent, name, err)
	}
}

// P9.1 and P9.2: whatever texts come, all calls answer by the chapter's words.
func FuzzPaths(f *testing.F) {
	f.Add("/a//b/", "/a")
	f.Add("", "/")
	f.Add("/a/b/c/d/e/f/g/h", "/a/b/c/d/e/f/g/h/i")
	f.Add(longest(), longest()+"/")
	f.Add("/./..", "/\x00")
	f.Fuzz(func(t *testing.T, a, b string) {
		checkSplit(t, a)
		checkSplit(t, b)
		checkWithin(t, a, b)
		checkWithin(t, b, a)
		checkWithin(t, a, a+b)
		checkJoin(t, []string{a, b})
		checkJoin(t, strings.SplitAfter(a, "b"))
		checkJoin(t, between(a))
	})
}
