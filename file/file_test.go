package file_test

import (
	"bytes"
	"math"
	"math/rand"
	"reflect"
	"runtime"
	"slices"
	"testing"
	"unsafe"

	"undercroft/api"
	"undercroft/file"
)

// The faces keep the signatures of the chapter.
var (
	_ func(file.File) api.Errno                           = file.Check
	_ func(file.File, int, int) ([]byte, api.Errno)       = file.Read
	_ func(file.File, int, []byte) (file.File, api.Errno) = file.Write
	_ func(file.File, int) (file.File, api.Errno)         = file.Truncate
	_ func([]byte) (file.File, api.Errno)                 = file.Of
)

const (
	block   = 32
	largest = 2432
)

// octets is n octets that differ from their neighbours, none of them zero.
func octets(seed, n int) []byte {
	b := make([]byte, n)
	for i := range b {
		b[i] = byte(1 + (seed*37+i*5)%255)
	}
	return b
}

// fileOf is the one file of a text, by the chapter's words: each of its blocks that is not all zeros, filled up with them.
func fileOf(text []byte) file.File {
	f := file.File{Size: len(text)}
	for i := 0; i*block < len(text); i++ {
		data := make([]byte, block)
		copy(data, text[i*block:])
		if !bytes.Equal(data, make([]byte, block)) {
			f.Blocks = append(f.Blocks, file.Block{Index: i, Data: data})
		}
	}
	return f
}

// written is text, with data from off on.
func written(text []byte, off int, data []byte) []byte {
	out := slices.Clone(text)
	if len(data) == 0 {
		return out
	}
	if len(out) < off+len(data) {
		out = truncated(out, off+len(data))
	}
	copy(out[off:], data)
	return out
}

func truncated(text []byte, size int) []byte {
	out := make([]byte, size)
	copy(out, text)
	return out
}

func readOf(text []byte, off, n int) []byte {
	if off >= len(text) {
		return nil
	}
	return text[off : off+min(n, len(text)-off)]
}

// same takes nil and empty lists as one.
func same(a, b file.File) bool {
	return a.Size == b.Size && slices.EqualFunc(a.Blocks, b.Blocks, func(x, y file.Block) bool {
		return x.Index == y.Index && bytes.Equal(x.Data, y.Data)
	})
}

func isZero(f file.File) bool {
	return f.Size == 0 && len(f.Blocks) == 0
}

func copied(f file.File) file.File {
	out := file.File{Size: f.Size}
	for _, b := range f.Blocks {
		out.Blocks = append(out.Blocks, file.Block{Index: b.Index, Data: slices.Clone(b.Data)})
	}
	return out
}

// gapped is a text of size octets in which each third block has octets, its last one too.
func gapped(size int) []byte {
	text := make([]byte, size)
	for i := 0; i < size; i += 3 * block {
		copy(text[i:min(i+block, size)], octets(i, block))
	}
	if size > 0 {
		text[size-1] = 9
	}
	return text
}

// texts holds texts whose sizes lie around the edges, full of octets, of zeros, and with gaps.
func texts() [][]byte {
	list := [][]byte{nil}
	for _, size := range []int{0, 1, 2, 31, 32, 33, 41, 63, 64, 65, 96, 100, 127, 128, 129, 384, 385, 1000, 2399, 2400, 2401, 2431, 2432} {
		list = append(list, octets(size, size), make([]byte, size), gapped(size))
	}
	return list
}

// offsets holds those from 0 on, around the edges of blocks and files, and those that wrap round or lose their upper half.
func offsets() []int {
	return []int{
		0, 1, 2, 30, 31, 32, 33, 40, 62, 63, 64, 65, 95, 96, 127, 128, 129, 383, 384, 385, 1000, 2399, 2400, 2401, 2430, 2431, 2432, 2433, 2434, 2464,
		1<<31 - 1, 1 << 31, 1 << 32, 1<<32 + 1, 1 << 40, 1 << 58, 1 << 59, math.MaxInt - 2432, math.MaxInt - 32, math.MaxInt - 31, math.MaxInt - 1, math.MaxInt,
	}
}

func below() []int {
	return []int{-1, -2, -31, -32, -33, -2432, -2433, -1 << 31, -1 << 32, -1 << 59, math.MinInt + 1, math.MinInt}
}

// wrongFiles holds files that may not be, each for one cause.
func wrongFiles() map[string]file.File {
	change := func(f func(*file.File)) file.File {
		made := fileOf(octets(3, 100))
		f(&made)
		return made
	}
	one := func(size, index int, data []byte) file.File {
		return file.File{Size: size, Blocks: []file.Block{{Index: index, Data: data}}}
	}
	single := func(at int) []byte {
		data := make([]byte, block)
		data[at] = 1
		return data
	}
	all := map[string]file.File{
		"size below 0":            {Size: -1},
		"least size":              {Size: math.MinInt},
		"size above":              {Size: 2433},
		"size above, in a block":  {Size: 2464},
		"most size":               {Size: math.MaxInt},
		"size above by 2^32":      {Size: 1 << 32},
		"size below, blocks":      change(func(f *file.File) { f.Size = -100 }),
		"size above, blocks":      change(func(f *file.File) { f.Size = 2433 }),
		"block of no octets":      one(0, 0, octets(1, block)),
		"index below 0":           change(func(f *file.File) { f.Blocks[0].Index = -1 }),
		"index at least":          change(func(f *file.File) { f.Blocks[0].Index = math.MinInt }),
		"index behind":            change(func(f *file.File) { f.Blocks[3].Index = 4 }),
		"index at most":           change(func(f *file.File) { f.Blocks[3].Index = math.MaxInt }),
		"index 2^59":              one(40, 1<<59, octets(1, block)),
		"index -2^59":             one(40, -1<<59, octets(1, block)),
		"index 2^32":              one(40, 1<<32, octets(1, block)),
		"index 1 of 32":           one(32, 1, octets(1, block)),
		"index 76":                one(2432, 76, octets(1, block)),
		"index twice":             change(func(f *file.File) { f.Blocks[1].Index = 0 }),
		"index twice, last":       change(func(f *file.File) { f.Blocks[3].Index = 2 }),
		"indexes fall":            change(func(f *file.File) { f.Blocks[1], f.Blocks[2] = f.Blocks[2], f.Blocks[1] }),
		"indexes fall at the end": change(func(f *file.File) { f.Blocks[3].Index = 1 }),
		"same block twice":        change(func(f *file.File) { f.Blocks = append(f.Blocks, f.Blocks[3]) }),
		"nil data":                change(func(f *file.File) { f.Blocks[1].Data = nil }),
		"empty data":              change(func(f *file.File) { f.Blocks[3].Data = []byte{} }),
		"short data":              change(func(f *file.File) { f.Blocks[0].Data = octets(1, 31) }),
		"long data":               change(func(f *file.File) { f.Blocks[2].Data = octets(1, 33) }),
		"short last data":         change(func(f *file.File) { f.Blocks[3].Data = octets(1, 4) }),
		"long data with 0":        change(func(f *file.File) { f.Blocks[2].Data = append(octets(1, 32), 0) }),
		"zeros":                   change(func(f *file.File) { f.Blocks[0].Data = make([]byte, block) }),
		"zeros in the last":       change(func(f *file.File) { f.Blocks[3].Data = make([]byte, block) }),
		"zeros alone":             one(2432, 75, make([]byte, block)),
	}
	all["behind size, at once"] = one(100, 3, single(4))
	all["behind size, at the end"] = one(100, 3, single(31))
	all["behind size, of one octet"] = one(1, 0, single(1))
	all["behind size, of 31"] = one(31, 0, single(31))
	all["behind size, of 2431"] = one(2431, 75, octets(1, block))
	return all
}

// P7.1: Check takes the files of texts, and those at the edges.
func TestCheck(t *testing.T) {
	for _, text := range texts() {
		if err := file.Check(fileOf(text)); err != api.OK {
			t.Errorf("Check of %d octets = %d", len(text), err)
		}
	}
	last := func(at int) []byte {
		data := make([]byte, block)
		data[at] = 255
		return data
	}
	for name, f := range map[string]file.File{
		"empty":                    {},
		"empty list":               {Blocks: []file.Block{}},
		"zeros":                    {Size: 2432},
		"last octet of a block":    {Size: 32, Blocks: []file.Block{{Index: 0, Data: last(31)}}},
		"last octet of all":        {Size: 2432, Blocks: []file.Block{{Index: 75, Data: last(31)}}},
		"last octet ahead of size": {Size: 100, Blocks: []file.Block{{Index: 3, Data: last(3)}}},
		"block ahead of the last":  {Size: 97, Blocks: []file.Block{{Index: 2, Data: last(31)}}},
		"room behind":              {Size: 40, Blocks: append(make([]file.Block, 0, 9), file.Block{Index: 1, Data: append(make([]byte, 0, 99), last(7)...)})},
	} {
		if err := file.Check(f); err != api.OK {
			t.Errorf("%s: Check = %d", name, err)
		}
	}
}

// P7.1: Check refuses what may not be.
func TestCheckRefuses(t *testing.T) {
	for name, f := range wrongFiles() {
		if err := file.Check(f); err != api.ErrState {
			t.Errorf("%s: Check = %d", name, err)
		}
	}
}

// P7.1: what may lie where, octet by octet: only those behind Size may not be.
func TestCheckEachOctet(t *testing.T) {
	for size := 0; size <= 70; size++ {
		for at := range 96 {
			data := make([]byte, block)
			data[at%block] = 1
			want := api.OK
			if at >= size {
				want = api.ErrState
			}
			f := file.File{Size: size, Blocks: []file.Block{{Index: at / block, Data: data}}}
			if err := file.Check(f); err != want {
				t.Errorf("an octet at %d of %d: Check = %d, want %d", at, size, err, want)
			}
		}
	}
}

// P7.1 and P4: all others answer Check's error first, whatever else is wrong.
func TestCheckFirst(t *testing.T) {
	for name, f := range wrongFiles() {
		for _, n := range []int{0, 1, 100, 2433, -1, math.MinInt, math.MaxInt} {
			for _, data := range [][]byte{nil, octets(1, 5), octets(1, 2433)} {
				b, readErr := file.Read(f, n, n)
				w, writeErr := file.Write(f, n, data)
				c, cutErr := file.Truncate(f, n)
				if readErr != api.ErrState || writeErr != api.ErrState || cutErr != api.ErrState {
					t.Errorf("%s, %d: Read %d, Write %d, Truncate %d", name, n, readErr, writeErr, cutErr)
				}
				if len(b) != 0 || !isZero(w) || !isZero(c) {
					t.Errorf("%s, %d: an answer beside the error", name, n)
				}
			}
		}
	}
}

// P7.1 and P7.2: Read tells what the text has there.
func TestRead(t *testing.T) {
	for _, text := range texts() {
		f := fileOf(text)
		for _, off := range append(offsets(), len(text), len(text)+1, max(0, len(text)-1)) {
			for _, n := range offsets() {
				if got, err := file.Read(f, off, n); err != api.OK || !bytes.Equal(got, readOf(text, off, n)) {
					t.Fatalf("Read(%d octets, %d, %d) = %x, %d", len(text), off, n, got, err)
				}
			}
		}
	}
}

// P7.1: Read of all places and lengths of a file with a gap in it.
func TestReadAll(t *testing.T) {
	text := gapped(130)
	f := fileOf(text)
	for off := range 170 {
		for n := range 170 {
			if got, err := file.Read(f, off, n); err != api.OK || !bytes.Equal(got, readOf(text, off, n)) {
				t.Fatalf("Read(%d, %d) = %x, %d", off, n, got, err)
			}
		}
	}
}

// P7.1: Read refuses numbers below 0, however great the other is.
func TestReadRefuses(t *testing.T) {
	for _, text := range texts() {
		f := fileOf(text)
		for _, wrong := range below() {
			for _, other := range append(below(), offsets()...) {
				for _, pair := range [][2]int{{wrong, other}, {other, wrong}} {
					if got, err := file.Read(f, pair[0], pair[1]); err != api.ErrRange || len(got) != 0 {
						t.Errorf("Read(%d octets, %d, %d) = %x, %d", len(text), pair[0], pair[1], got, err)
					}
				}
			}
		}
	}
}

// data holds what is written: octets, zeros, both, none.
func data() [][]byte {
	list := [][]byte{nil, {}, {0}, {7}, {0, 7}, {7, 0}}
	for _, n := range []int{31, 32, 33, 63, 64, 65, 100, 1000, 2431, 2432, 2433, 5000} {
		list = append(list, octets(n+1, n), make([]byte, n))
	}
	return list
}

// wantWrite is Write by its words.
func wantWrite(text []byte, off int, data []byte) (file.File, api.Errno) {
	if off < 0 {
		return file.File{}, api.ErrRange
	}
	if len(data) > 0 && (off > largest || off+len(data) > largest) {
		return file.File{}, api.ErrBig
	}
	return fileOf(written(text, off, data)), api.OK
}

func checkWrite(t *testing.T, text []byte, off int, data []byte) {
	t.Helper()
	want, wantErr := wantWrite(text, off, data)
	got, err := file.Write(fileOf(text), off, data)
	if err != wantErr || !same(got, want) {
		t.Fatalf("Write(%d octets, %d, %d octets) = %d octets, %d blocks, %d, want %d octets, %d blocks, %d",
			len(text), off, len(data), got.Size, len(got.Blocks), err, want.Size, len(want.Blocks), wantErr)
	}
}

// P7.1 to P7.3: Write makes the one file of the text that it would be, or refuses.
func TestWrite(t *testing.T) {
	for _, text := range texts() {
		for _, off := range append(append(offsets(), below()...), len(text), len(text)+1) {
			for _, d := range data() {
				checkWrite(t, text, off, d)
			}
		}
	}
}

// P7.1: Write at the edges, and which error goes ahead.
func TestWriteAtEdges(t *testing.T) {
	for _, c := range []struct {
		name         string
		old          int
		off, n       int
		size, blocks int
		want         api.Errno
	}{
		{"example", 0, 40, 1, 41, 1, api.OK},
		{"to the limit", 0, 2431, 1, 2432, 1, api.OK},
		{"all", 0, 0, 2432, 2432, 76, api.OK},
		{"over the limit by one", 0, 2432, 1, 0, 0, api.ErrBig},
		{"over the limit by length", 0, 2431, 2, 0, 0, api.ErrBig},
		{"too long", 0, 0, 2433, 0, 0, api.ErrBig},
		{"behind the limit", 0, 2433, 1, 0, 0, api.ErrBig},
		{"a sum that wraps round", 0, math.MaxInt, 1, 0, 0, api.ErrBig},
		{"a sum that wraps round to 0", 0, math.MaxInt - 99, 100, 0, 0, api.ErrBig},
		{"none, at the limit", 50, 2432, 0, 50, 2, api.OK},
		{"none, behind the limit", 50, 2433, 0, 50, 2, api.OK},
		{"none, at the most", 50, math.MaxInt, 0, 50, 2, api.OK},
		{"none, behind the end", 50, 60, 0, 50, 2, api.OK},
		{"none, into none", 0, 60, 0, 0, 0, api.OK},
		{"none, below 0", 50, -1, 0, 0, 0, api.ErrRange},
		{"below 0", 50, -1, 1, 0, 0, api.ErrRange},
		{"below 0 and too long", 50, -1, 2433, 0, 0, api.ErrRange},
		{"below 0, too long, together not", 50, -100, 2433, 0, 0, api.ErrRange},
		{"least", 50, math.MinInt, 1, 0, 0, api.ErrRange},
		{"within", 100, 40, 10, 100, 4, api.OK},
		{"over the end", 100, 95, 10, 105, 4, api.OK},
		{"over the end into a new block", 100, 125, 10, 135, 5, api.OK},
		{"behind a gap of blocks", 10, 320, 32, 352, 2, api.OK},
		{"just one block", 10, 32, 32, 64, 2, api.OK},
	} {
		f, err := file.Write(fileOf(octets(1, c.old)), c.off, octets(2, c.n))
		if err != c.want || f.Size != c.size || len(f.Blocks) != c.blocks {
			t.Errorf("%s: %d octets, %d blocks, %d", c.name, f.Size, len(f.Blocks), err)
		}
	}
	f, err := file.Write(file.File{}, 40, []byte("x"))
	want := append(append(make([]byte, 8), 'x'), make([]byte, 23)...)
	if err != api.OK || f.Size != 41 || len(f.Blocks) != 1 || f.Blocks[0].Index != 1 || !bytes.Equal(f.Blocks[0].Data, want) {
		t.Errorf("example 1: %v, %d", f, err)
	}
}

// P7.1 and P7.3: of zeros that are written over octets no block is left.
func TestWriteZeros(t *testing.T) {
	f := fileOf(octets(1, 100))
	for _, c := range []struct {
		off, n int
		left   []int
	}{
		{0, 32, []int{1, 2, 3}}, {0, 31, []int{0, 1, 2, 3}}, {1, 32, []int{0, 1, 2, 3}}, {32, 64, []int{0, 3}}, {31, 66, []int{0, 3}},
		{96, 4, []int{0, 1, 2}}, {96, 3, []int{0, 1, 2, 3}}, {96, 2000, []int{0, 1, 2}}, {0, 100, nil}, {0, 2432, nil}, {200, 40, []int{0, 1, 2, 3}},
	} {
		got, err := file.Write(f, c.off, make([]byte, c.n))
		var left []int
		for _, b := range got.Blocks {
			left = append(left, b.Index)
		}
		if err != api.OK || got.Size != max(100, c.off+c.n) || !slices.Equal(left, c.left) {
			t.Errorf("%d zeros at %d: %d octets, blocks %v, %d", c.n, c.off, got.Size, left, err)
		}
	}
}

// P7.1 to P7.3: Truncate makes the one file of the text that it would be.
func TestTruncate(t *testing.T) {
	for _, text := range texts() {
		f := fileOf(text)
		for size := range largest + 1 {
			if got, err := file.Truncate(f, size); err != api.OK || !same(got, fileOf(truncated(text, size))) {
				t.Fatalf("Truncate(%d octets, %d) = %d octets, %d blocks, %d", len(text), size, got.Size, len(got.Blocks), err)
			}
		}
	}
}

// P7.1: Truncate refuses sizes that no file has.
func TestTruncateRefuses(t *testing.T) {
	for _, text := range texts() {
		f := fileOf(text)
		for _, size := range below() {
			if got, err := file.Truncate(f, size); err != api.ErrRange || !isZero(got) {
				t.Errorf("Truncate(%d) = %d octets, %d", size, got.Size, err)
			}
		}
		for _, size := range offsets() {
			if size <= largest {
				continue
			}
			if got, err := file.Truncate(f, size); err != api.ErrBig || !isZero(got) {
				t.Errorf("Truncate(%d) = %d octets, %d", size, got.Size, err)
			}
		}
	}
}

// P7.1 and P7.2: what was cut off does not come back, by a longer size or by a write behind it.
func TestCutStaysCut(t *testing.T) {
	text := octets(5, 200)
	for size := range 201 {
		short, _ := file.Truncate(fileOf(text), size)
		want := append(slices.Clone(text[:size]), make([]byte, 300-size)...)
		long, err := file.Truncate(short, 300)
		if got, _ := file.Read(long, 0, 300); err != api.OK || !bytes.Equal(got, want) {
			t.Errorf("cut to %d and made longer: %x, %d", size, got, err)
		}
		want[299] = 1
		long, err = file.Write(short, 299, []byte{1})
		if got, _ := file.Read(long, 0, 300); err != api.OK || !bytes.Equal(got, want) {
			t.Errorf("cut to %d and written behind: %x, %d", size, got, err)
		}
	}
}

// P7.1 and P7.3: Of makes the one file of its text, or tells that it is too large.
func TestOf(t *testing.T) {
	for _, text := range texts() {
		f, err := file.Of(text)
		if err != api.OK || !same(f, fileOf(text)) {
			t.Errorf("Of(%d octets) = %d octets, %d blocks, %d", len(text), f.Size, len(f.Blocks), err)
		}
		if got, err := file.Read(f, 0, math.MaxInt); err != api.OK || !bytes.Equal(got, text) {
			t.Errorf("Read(Of(%d octets)) = %x, %d", len(text), got, err)
		}
	}
	for _, n := range []int{2433, 2464, 4096, 1 << 16} {
		for _, text := range [][]byte{octets(1, n), make([]byte, n)} {
			if f, err := file.Of(text); err != api.ErrBig || !isZero(f) {
				t.Errorf("Of(%d octets) = %d octets, %d", n, f.Size, err)
			}
		}
	}
	if f, err := file.Of(nil); err != api.OK || !isZero(f) {
		t.Errorf("Of(nil) = %v, %d", f, err)
	}
}

// step does one thing to a file and to the text that it is, and holds one against the other.
func step(t *testing.T, r *rand.Rand, f file.File, text []byte) (file.File, []byte) {
	t.Helper()
	var err api.Errno
	if r.Intn(3) == 0 {
		size := r.Intn(min(largest, len(text)+200) + 1)
		f, err = file.Truncate(f, size)
		text = truncated(text, size)
	} else {
		off := r.Intn(min(largest, len(text)+100) + 1)
		piece := octets(r.Intn(1000), r.Intn(min(100, largest-off)+1))
		if r.Intn(2) == 0 {
			clear(piece)
		}
		f, err = file.Write(f, off, piece)
		text = written(text, off, piece)
	}
	if err != api.OK || !same(f, fileOf(text)) || file.Check(f) != api.OK {
		t.Fatalf("behind a step: %d octets, %d blocks, want %d octets, %d", f.Size, len(f.Blocks), len(text), err)
	}
	if got, err := file.Read(f, 0, largest); err != api.OK || !bytes.Equal(got, text) {
		t.Fatalf("behind a step: read %x, want %x, %d", got, text, err)
	}
	off, n := r.Intn(largest), r.Intn(200)
	if got, err := file.Read(f, off, n); err != api.OK || !bytes.Equal(got, readOf(text, off, n)) {
		t.Fatalf("behind a step: Read(%d, %d) = %x, %d", off, n, got, err)
	}
	return f, text
}

// P7.2 and P7.3: behind any writes and cuts a file is what a text would be, and the one file of it.
func TestScripts(t *testing.T) {
	for seed := range 60 {
		r := rand.New(rand.NewSource(int64(seed)))
		var f file.File
		var text []byte
		for range 100 {
			f, text = step(t, r, f, text)
		}
	}
}

// P7.3: one text, come to by ways of its own, is one file, deep down.
func TestOneFile(t *testing.T) {
	for _, text := range texts() {
		whole, _ := file.Of(text)
		backwards, _ := file.Truncate(file.File{}, len(text))
		for i := len(text) - 1; i >= 0; i-- {
			backwards, _ = file.Write(backwards, i, text[i:i+1])
		}
		var over file.File
		over, _ = file.Of(octets(77, largest))
		over, _ = file.Write(over, 0, text)
		over, _ = file.Truncate(over, len(text))
		for name, f := range map[string]file.File{"backwards": backwards, "over another": over} {
			if !reflect.DeepEqual(f, whole) {
				t.Errorf("%d octets, %s: %d octets, %d blocks", len(text), name, f.Size, len(f.Blocks))
			}
		}
	}
}

func span[T any](list []T) [2]uintptr {
	from := uintptr(unsafe.Pointer(unsafe.SliceData(list)))
	return [2]uintptr{from, from + uintptr(cap(list))*unsafe.Sizeof(*new(T))}
}

func spans(f file.File) [][2]uintptr {
	list := [][2]uintptr{span(f.Blocks)}
	for _, b := range f.Blocks {
		list = append(list, span(b.Data))
	}
	return list
}

// apart tells whether no two of the spans overlap.
func apart(list [][2]uintptr) bool {
	list = slices.DeleteFunc(slices.Clone(list), func(s [2]uintptr) bool { return s[0] == s[1] })
	slices.SortFunc(list, func(a, b [2]uintptr) int { return slices.Compare(a[:], b[:]) })
	for i := range list {
		if i > 0 && list[i][0] < list[i-1][1] {
			return false
		}
	}
	return true
}

// roomy is f with room behind each of its lists, in which something stands.
func roomy(f file.File) file.File {
	out := file.File{Size: f.Size, Blocks: make([]file.Block, 0, len(f.Blocks)+3)}
	for _, b := range f.Blocks {
		out.Blocks = append(out.Blocks, file.Block{Index: b.Index, Data: append(b.Data, octets(4, 40)...)[:len(b.Data)]})
	}
	behind := out.Blocks[len(out.Blocks):cap(out.Blocks)]
	for i := range behind {
		behind[i] = file.Block{Index: 70 + i, Data: octets(i, block)}
	}
	return out
}

// room is f with all that stands in the room behind its lists.
func room(f file.File) file.File {
	out := file.File{Size: f.Size}
	for _, b := range f.Blocks[:cap(f.Blocks)] {
		out.Blocks = append(out.Blocks, file.Block{Index: b.Index, Data: slices.Clone(b.Data[:cap(b.Data)])})
	}
	return out
}

// P7.4: what is handed in is not changed, nor the room behind it.
func TestArgumentsStay(t *testing.T) {
	for _, text := range texts() {
		f := roomy(fileOf(text))
		before := room(f)
		for _, n := range []int{0, 1, 31, 32, 33, 100, 2400, 2432, 2433, -1} {
			piece := append(octets(8, 50), octets(9, 20)...)[:50]
			pieceBefore := slices.Clone(piece[:cap(piece)])
			file.Check(f)
			file.Read(f, n, 100)
			file.Write(f, n, piece)
			file.Write(f, n, nil)
			file.Write(f, n, make([]byte, 64))
			file.Truncate(f, n)
			file.Of(piece)
			if !same(room(f), before) || !bytes.Equal(piece[:cap(piece)], pieceBefore) {
				t.Fatalf("%d octets, %d: an argument was changed", len(text), n)
			}
		}
	}
}

// P7.4: answers share no memory with arguments, with each other, nor within one.
func TestAnswersApart(t *testing.T) {
	for _, text := range texts() {
		piece := octets(8, 64)
		// All of them are held until they are looked at: memory that nobody holds comes back in later answers.
		files := []file.File{roomy(fileOf(text))}
		lists := [][]byte{text, piece}
		for range 2 {
			for _, n := range []int{0, 1, 32, 100, 2368, 2432} {
				b, _ := file.Read(files[0], n, 64)
				w, _ := file.Write(files[0], n, piece)
				none, _ := file.Write(files[0], n, nil)
				c, _ := file.Truncate(files[0], n)
				lists = append(lists, b)
				files = append(files, w, none, c)
			}
			o, _ := file.Of(text)
			p, _ := file.Of(piece)
			files = append(files, o, p)
		}
		var all [][2]uintptr
		for _, f := range files {
			all = append(all, spans(f)...)
		}
		for _, b := range lists {
			all = append(all, span(b))
		}
		if !apart(all) {
			t.Errorf("%d octets: answers share memory", len(text))
		}
		runtime.KeepAlive(files)
		runtime.KeepAlive(lists)
	}
}

// P7.4: writing over what was handed in, or over one answer, changes no other answer.
func TestAnswersStay(t *testing.T) {
	f := fileOf(gapped(200))
	piece := octets(8, 50)
	w, _ := file.Write(f, 70, piece)
	none, _ := file.Write(f, 70, nil)
	c, _ := file.Truncate(f, 150)
	o, _ := file.Of(piece)
	want := []file.File{copied(w), copied(none), copied(c), copied(o)}
	clear(piece)
	for _, b := range f.Blocks {
		clear(b.Data)
	}
	clear(f.Blocks)
	for i, got := range []file.File{w, none, c, o} {
		if !same(got, want[i]) {
			t.Errorf("answer %d changed with an argument", i)
		}
		b, _ := file.Read(got, 0, 2432)
		clear(b)
		if !same(got, want[i]) {
			t.Errorf("answer %d changed with what was read", i)
		}
	}
}

// P7.4: blocks that are handed in and share their octets do not in the answer.
func TestSharedOctets(t *testing.T) {
	data := octets(1, block)
	f := file.File{Size: 64, Blocks: []file.Block{{Index: 0, Data: data}, {Index: 1, Data: data}}}
	want := append(slices.Clone(data), data...)
	want[0] = 99
	got, err := file.Write(f, 0, []byte{99})
	if err != api.OK || !same(got, fileOf(want)) || !apart(append(spans(got), span(data))) {
		t.Errorf("Write: %v, %d", got, err)
	}
	got, err = file.Write(f, 16, data)
	if err != api.OK || !same(got, fileOf(written(append(slices.Clone(data), data...), 16, data))) {
		t.Errorf("Write of the file's own octets: %v, %d", got, err)
	}
	got, err = file.Truncate(f, 40)
	if err != api.OK || !same(got, fileOf(append(slices.Clone(data), data[:8]...))) {
		t.Errorf("Truncate: %v, %d", got, err)
	}
}

// P3: the same call answers the same again, in the same order.
func TestAgain(t *testing.T) {
	run := func() []any {
		var all []any
		for _, text := range texts() {
			f, err := file.Of(text)
			w, writeErr := file.Write(f, 60, octets(2, 900))
			c, cutErr := file.Truncate(f, 90)
			b, readErr := file.Read(w, 3, 1000)
			all = append(all, f, err, w, writeErr, c, cutErr, b, readErr)
		}
		return all
	}
	first := run()
	for range 5 {
		if !reflect.DeepEqual(run(), first) {
			t.Fatal("the same calls answer otherwise")
		}
	}
}

// P1: files of any kind and numbers of any size bring no panic.
func TestAnything(t *testing.T) {
	r := rand.New(rand.NewSource(7))
	numbers := append(append(offsets(), below()...), 75, 76, 77)
	for range 20000 {
		f := file.File{Size: numbers[r.Intn(len(numbers))]}
		for range r.Intn(4) {
			f.Blocks = append(f.Blocks, file.Block{Index: numbers[r.Intn(len(numbers))], Data: octets(r.Intn(99), 30+r.Intn(4))})
		}
		off, n := numbers[r.Intn(len(numbers))], numbers[r.Intn(len(numbers))]
		err := file.Check(f)
		_, readErr := file.Read(f, off, n)
		_, writeErr := file.Write(f, off, octets(1, r.Intn(99)))
		_, cutErr := file.Truncate(f, n)
		if err != api.OK && (readErr != err || writeErr != err || cutErr != err) {
			t.Fatalf("%v: Check %d, Read %d, Write %d, Truncate %d", f, err, readErr, writeErr, cutErr)
		}
	}
}

// P7.1 to P7.3: whatever comes, the answers are those of a text.
func FuzzFile(f *testing.F) {
	f.Add([]byte("abc"), 40, []byte("x"), 41)
	f.Add(make([]byte, 64), 2431, []byte{0}, 0)
	f.Add([]byte{}, math.MaxInt, []byte("y"), math.MaxInt)
	f.Add(octets(1, 2432), -1, []byte{}, -1)
	f.Fuzz(func(t *testing.T, text []byte, off int, piece []byte, size int) {
		made, err := file.Of(text)
		if len(text) > largest {
			if err != api.ErrBig || !isZero(made) {
				t.Fatalf("Of(%d octets): %d", len(text), err)
			}
			return
		}
		if err != api.OK || !same(made, fileOf(text)) {
			t.Fatalf("Of(%x) = %v, %d", text, made, err)
		}
		checkWrite(t, text, off, piece)
		cut, err := file.Truncate(made, size)
		switch {
		case size < 0:
			if err != api.ErrRange || !isZero(cut) {
				t.Errorf("Truncate(%d): %d", size, err)
			}
		case size > largest:
			if err != api.ErrBig || !isZero(cut) {
				t.Errorf("Truncate(%d): %d", size, err)
			}
		case err != api.OK || !same(cut, fileOf(truncated(text, size))):
			t.Errorf("Truncate(%d) = %v, %d", size, cut, err)
		}
		got, err := file.Read(made, off, size)
		if off < 0 || size < 0 {
			if err != api.ErrRange || len(got) != 0 {
				t.Errorf("Read(%d, %d): %x, %d", off, size, got, err)
			}
		} else if err != api.OK || !bytes.Equal(got, readOf(text, off, size)) {
			t.Errorf("Read(%d, %d) = %x, %d", off, size, got, err)
		}
	})
}
