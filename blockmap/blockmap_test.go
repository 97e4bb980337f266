package blockmap_test

import (
	"math"
	"reflect"
	"slices"
	"testing"
	"unsafe"

	"undercroft/api"
	"undercroft/blockmap"
)

// The faces keep the signatures of the chapter.
var (
	_ func(int) ([]int, api.Errno)         = blockmap.Path
	_ func([]int) (int, api.Errno)         = blockmap.Index
	_ func(int) (int, int, api.Errno)      = blockmap.Blocks
	_ func(int, int) (int, int, api.Errno) = blockmap.Span
)

// allPaths holds the path of each block, gone through as they stand one behind the other.
func allPaths() [][]int {
	var list [][]int
	for i := range 4 {
		list = append(list, []int{i})
	}
	for i := range 8 {
		list = append(list, []int{4, i})
	}
	for i := range 8 {
		for j := range 8 {
			list = append(list, []int{5, i, j})
		}
	}
	return list
}

// near holds the numbers around 0 and the limits, and those that wrap round or lose their upper half.
func near() []int {
	list := []int{
		math.MinInt, math.MinInt + 1, math.MinInt + 32, -1 << 40, -1 << 32, -1<<31 - 1, -1 << 31, -2433, -2432, -100, -33, -32, -31, -2, -1,
		0, 1, 2, 3, 4, 5, 7, 8, 11, 12, 13, 30, 31, 32, 33, 63, 64, 75, 76, 77, 100, 127, 128, 129, 383, 384, 385, 415, 416, 417,
		2399, 2400, 2401, 2430, 2431, 2432, 2433, 2434, 2463, 2464, 2465, 1<<31 - 1, 1 << 31, 1 << 32, 1<<32 + 1, 1<<32 + 75, 1 << 40,
	}
	for i := range 80 {
		list = append(list, math.MaxInt-i)
	}
	return append(list, math.MaxInt-2431, math.MaxInt-2432, math.MaxInt-2433)
}

// P6.1: Path of every block, and of numbers that are none.
func TestPath(t *testing.T) {
	for index, want := range allPaths() {
		if got, err := blockmap.Path(index); err != api.OK || !slices.Equal(got, want) {
			t.Errorf("Path(%d) = %v, %d, want %v", index, got, err, want)
		}
	}
	for _, index := range near() {
		if index >= 0 && index <= 75 {
			continue
		}
		if got, err := blockmap.Path(index); err != api.ErrRange || len(got) != 0 {
			t.Errorf("Path(%d) = %v, %d, want ErrRange alone", index, got, err)
		}
	}
}

// P6.1: Index of every path, with room behind it or without.
func TestIndex(t *testing.T) {
	for want, path := range allPaths() {
		for _, given := range [][]int{path, slices.Clip(slices.Clone(path)), append(make([]int, 0, 9), path...)} {
			if got, err := blockmap.Index(given); err != api.OK || got != want {
				t.Errorf("Index(%v) = %d, %d, want %d", given, got, err, want)
			}
		}
	}
}

// wantIndex is Index by its words: the place among all paths.
func wantIndex(path []int) (int, api.Errno) {
	for index, one := range allPaths() {
		if slices.Equal(one, path) {
			return index, api.OK
		}
	}
	return 0, api.ErrRange
}

func checkIndex(t *testing.T, path []int) {
	t.Helper()
	want, wantErr := wantIndex(path)
	if got, err := blockmap.Index(path); got != want || err != wantErr {
		t.Errorf("Index(%v) = %d, %d, want %d, %d", path, got, err, want, wantErr)
	}
}

// P6.1: Index of what is no path, and of all short lists of small numbers.
func TestIndexOfNone(t *testing.T) {
	for _, path := range [][]int{
		nil, {}, {-1}, {4}, {5}, {6}, {75}, {math.MinInt}, {math.MaxInt}, {1 << 32}, {-1 << 32},
		{0, 0}, {3, 7}, {4, -1}, {4, 8}, {5, 0}, {5, 7}, {6, 0}, {-4, 0}, {4, math.MinInt}, {4, math.MaxInt}, {4, 1 << 32}, {1<<32 + 4, 0},
		{4, 0, 0}, {4, 7, 7}, {5, -1, 0}, {5, -1, 8}, {5, 0, -1}, {5, 1, -1}, {5, 0, 8}, {5, 8, 0}, {5, 7, 8}, {5, 8, -8}, {5, 8, -1}, {6, 0, 0}, {3, 0, 0},
		{5, math.MaxInt, 0}, {5, 0, math.MaxInt}, {5, math.MinInt, math.MinInt}, {5, 1 << 61, 0}, {5, 1 << 32, 1 << 32},
		{0, 0, 0}, {5, 0, 0, 0}, {4, 0, 0, 0}, {6, 0, 0, 0}, {0, 0, 0, 0}, make([]int, 1000), {5, 7, 7, 7}, {4, 5, 7, 7},
	} {
		if got, err := blockmap.Index(path); err != api.ErrRange || got != 0 {
			t.Errorf("Index(%v) = %d, %d, want ErrRange alone", path, got, err)
		}
	}
	for a := -2; a < 15; a++ {
		checkIndex(t, []int{a})
		for b := -2; b < 15; b++ {
			checkIndex(t, []int{a, b})
			for c := -2; c < 15; c++ {
				checkIndex(t, []int{a, b, c})
			}
		}
	}
}

// P6.3: Index of Path is the index, and no two blocks have one path.
func TestPathsDiffer(t *testing.T) {
	seen := map[[3]int]int{}
	for index := range 76 {
		path, err := blockmap.Path(index)
		if err != api.OK {
			t.Fatalf("Path(%d): %d", index, err)
		}
		if back, err := blockmap.Index(path); err != api.OK || back != index {
			t.Errorf("Index(Path(%d)) = %d, %d", index, back, err)
		}
		key := [3]int{-1, -1, -1}
		copy(key[:], path)
		if other, found := seen[key]; found {
			t.Errorf("%d and %d have one path, %v", other, index, path)
		}
		seen[key] = index
	}
}

// wantBlocks is Blocks by its words: each block that has an octet, and each indirect one on the way to it, counted once.
func wantBlocks(size int) (int, int, api.Errno) {
	if size < 0 {
		return 0, 0, api.ErrRange
	}
	if size > 2432 {
		return 0, 0, api.ErrBig
	}
	paths := allPaths()
	blocks, indirect := 0, map[[2]int]int{}
	for octet := 0; octet < size; octet += 32 {
		path := paths[blocks]
		blocks++
		if len(path) > 1 {
			indirect[[2]int{path[0], -1}]++
		}
		if len(path) > 2 {
			indirect[[2]int{path[0], path[1]}]++
		}
	}
	return blocks, len(indirect), api.OK
}

func checkBlocks(t *testing.T, size int) {
	t.Helper()
	blocks, indirect, err := blockmap.Blocks(size)
	wantedBlocks, wantedIndirect, wantErr := wantBlocks(size)
	if blocks != wantedBlocks || indirect != wantedIndirect || err != wantErr {
		t.Errorf("Blocks(%d) = %d, %d, %d, want %d, %d, %d", size, blocks, indirect, err, wantedBlocks, wantedIndirect, wantErr)
	}
}

// P6.2: Blocks of every size, and of what is none.
func TestBlocks(t *testing.T) {
	for size := -100; size < 2600; size++ {
		checkBlocks(t, size)
	}
	for _, size := range near() {
		checkBlocks(t, size)
	}
}

// P6.2: Blocks at the edges where one more indirect block is needed.
func TestBlocksAtEdges(t *testing.T) {
	for _, c := range []struct{ size, blocks, indirect int }{
		{0, 0, 0}, {1, 1, 0}, {31, 1, 0}, {32, 1, 0}, {33, 2, 0},
		{4 * 32, 4, 0}, {4*32 + 1, 5, 1}, {12 * 32, 12, 1}, {12*32 + 1, 13, 3},
		{20 * 32, 20, 3}, {20*32 + 1, 21, 4}, {68 * 32, 68, 9}, {68*32 + 1, 69, 10}, {2431, 76, 10}, {2432, 76, 10},
	} {
		if blocks, indirect, err := blockmap.Blocks(c.size); blocks != c.blocks || indirect != c.indirect || err != api.OK {
			t.Errorf("Blocks(%d) = %d, %d, %d, want %d, %d", c.size, blocks, indirect, err, c.blocks, c.indirect)
		}
	}
}

// wantSpan is Span by its words: the blocks of the octets, one after the other.
func wantSpan(off, n int) (int, int, api.Errno) {
	if off < 0 || n < 0 {
		return 0, 0, api.ErrRange
	}
	if off > 2432 || n > 2432 || off+n > 2432 {
		return 0, 0, api.ErrBig
	}
	if n == 0 {
		return off / 32, 0, api.OK
	}
	first, last := off/32, (off+n-1)/32
	return first, last - first + 1, api.OK
}

func checkSpan(t *testing.T, off, n int) {
	t.Helper()
	first, blocks, err := blockmap.Span(off, n)
	wantFirst, wantedBlocks, wantErr := wantSpan(off, n)
	if first != wantFirst || blocks != wantedBlocks || err != wantErr {
		t.Errorf("Span(%d, %d) = %d, %d, %d, want %d, %d, %d", off, n, first, blocks, err, wantFirst, wantedBlocks, wantErr)
	}
}

// P6.2: Span of all that a file may hold, and of numbers of any size.
func TestSpan(t *testing.T) {
	for off := -3; off < 2470; off++ {
		for n := -3; n < 100; n++ {
			checkSpan(t, off, n)
		}
		for n := 2432 - off - 40; n < 2432-off+40; n++ {
			checkSpan(t, off, n)
		}
	}
	for _, off := range near() {
		for _, n := range near() {
			checkSpan(t, off, n)
		}
	}
}

// P6.2: Span at the edges, and which error goes ahead.
func TestSpanAtEdges(t *testing.T) {
	for _, c := range []struct {
		off, n, first, blocks int
		err                   api.Errno
	}{
		{0, 0, 0, 0, api.OK}, {0, 1, 0, 1, api.OK}, {0, 32, 0, 1, api.OK}, {0, 33, 0, 2, api.OK}, {0, 2432, 0, 76, api.OK},
		{31, 0, 0, 0, api.OK}, {31, 1, 0, 1, api.OK}, {31, 2, 0, 2, api.OK}, {32, 0, 1, 0, api.OK}, {32, 1, 1, 1, api.OK}, {40, 1, 1, 1, api.OK},
		{31, 34, 0, 3, api.OK}, {2431, 1, 75, 1, api.OK}, {2431, 0, 75, 0, api.OK}, {2432, 0, 76, 0, api.OK},
		{2432, 1, 0, 0, api.ErrBig}, {2433, 0, 0, 0, api.ErrBig}, {2431, 2, 0, 0, api.ErrBig}, {0, 2433, 0, 0, api.ErrBig},
		{1, math.MaxInt, 0, 0, api.ErrBig}, {math.MaxInt, 1, 0, 0, api.ErrBig}, {math.MaxInt, math.MaxInt, 0, 0, api.ErrBig},
		{-1, 0, 0, 0, api.ErrRange}, {0, -1, 0, 0, api.ErrRange}, {-1, 33, 0, 0, api.ErrRange}, {33, -1, 0, 0, api.ErrRange},
		{-1, math.MaxInt, 0, 0, api.ErrRange}, {2433, -1, 0, 0, api.ErrRange}, {math.MaxInt, math.MinInt, 0, 0, api.ErrRange}, {math.MinInt, math.MinInt, 0, 0, api.ErrRange},
	} {
		if first, blocks, err := blockmap.Span(c.off, c.n); first != c.first || blocks != c.blocks || err != c.err {
			t.Errorf("Span(%d, %d) = %d, %d, %d, want %d, %d, %d", c.off, c.n, first, blocks, err, c.first, c.blocks, c.err)
		}
	}
}

func span[T any](list []T) [2]uintptr {
	from := uintptr(unsafe.Pointer(unsafe.SliceData(list)))
	return [2]uintptr{from, from + uintptr(cap(list))*unsafe.Sizeof(*new(T))}
}

// apart tells whether no two of the spans overlap.
func apart(list [][2]uintptr) bool {
	list = slices.DeleteFunc(slices.Clone(list), func(s [2]uintptr) bool { return s[0] == s[1] })
	slices.SortFunc(list, func(a, b [2]uintptr) int { return slices.Compare(a[:], b[:]) })
	for i := range list {
		if i > 0 && list[i][0] < list[i-1][1] {
			return false
		}
	}
	return true
}

// P6.4: no two answers share memory, writing over them changes no later one, and a path that is handed in stays as it is.
func TestMemory(t *testing.T) {
	var lists [][]int
	var spans [][2]uintptr
	for range 2 {
		for index := range 76 {
			path, _ := blockmap.Path(index)
			lists = append(lists, path)
			spans = append(spans, span(path))
		}
	}
	if !apart(spans) {
		t.Error("answers of Path share memory")
	}
	for _, path := range lists {
		clear(path[:cap(path)])
	}
	for index, want := range allPaths() {
		got, _ := blockmap.Path(index)
		if !slices.Equal(got, want) {
			t.Errorf("Path(%d) = %v once its answers were written over", index, got)
		}
		roomy := append(make([]int, 0, 9), want...)
		roomy[:9][len(want)] = 77
		blockmap.Index(roomy)
		if !slices.Equal(roomy, want) || roomy[:9][len(want)] != 77 {
			t.Errorf("Index changed %v", want)
		}
	}
}

// P3: the same call answers the same again.
func TestAgain(t *testing.T) {
	run := func() []any {
		var all []any
		note := func(list ...any) { all = append(all, list...) }
		for _, a := range near() {
			path, err := blockmap.Path(a)
			index, indexErr := blockmap.Index(path)
			blocks, indirect, blocksErr := blockmap.Blocks(a)
			note(path, err, index, indexErr, blocks, indirect, blocksErr)
			for _, b := range near() {
				first, count, spanErr := blockmap.Span(a, b)
				note(first, count, spanErr)
			}
		}
		return all
	}
	if !reflect.DeepEqual(run(), run()) {
		t.Error("the same calls answer otherwise")
	}
}

// P6.1 to P6.4: whatever numbers come, the answers are those of the words.
func FuzzBlockmap(f *testing.F) {
	f.Add(0, 0, 0)
	f.Add(5, 7, 7)
	f.Add(4, 7, -1)
	f.Add(2432, 0, 1)
	f.Add(math.MaxInt, math.MaxInt, math.MinInt)
	f.Fuzz(func(t *testing.T, a, b, c int) {
		path, err := blockmap.Path(a)
		if a >= 0 && a < 76 {
			if err != api.OK || !slices.Equal(path, allPaths()[a]) {
				t.Errorf("Path(%d) = %v, %d", a, path, err)
			}
		} else if err != api.ErrRange || len(path) != 0 {
			t.Errorf("Path(%d) = %v, %d, want ErrRange alone", a, path, err)
		}
		for _, path := range [][]int{{a}, {a, b}, {a, b, c}, {a, b, c, a}} {
			checkIndex(t, path)
		}
		checkBlocks(t, a)
		checkSpan(t, a, b)
		checkSpan(t, b, c)
	})
}
