package wire_test

import (
	"bytes"
	"encoding/binary"
	"hash/crc32"
	"maps"
	"math"
	"math/big"
	"math/rand"
	"reflect"
	"slices"
	"strconv"
	"strings"
	"testing"
	"unsafe"

	"undercroft/api"
	"undercroft/wire"
)

// The faces keep the signatures of the chapter.
var (
	_ func(wire.Record) api.Errno           = wire.Check
	_ func(wire.Record) ([]byte, api.Errno) = wire.Encode
	_ func([]byte) (wire.Record, api.Errno) = wire.Decode
	_ func([]byte) ([][]byte, api.Errno)    = wire.Split
	_ func([][]byte) ([]byte, api.Errno)    = wire.Join
	_ struct {
		Kind  int
		Nums  []int
		Texts [][]byte
	} = wire.Record{}
)

// octets is n octets that differ from their neighbours.
func octets(seed, n int) []byte {
	b := make([]byte, n)
	for i := range b {
		b[i] = byte(1 + (seed*37+i*5)%255)
	}
	return b
}

// texts is n texts of that many octets, each unlike its neighbours.
func texts(n, size int) [][]byte {
	var l [][]byte
	for i := range n {
		l = append(l, octets(i, size))
	}
	return l
}

// numbers is n numbers on both sides of 0, of many sizes.
func numbers(n int) []int {
	var l []int
	for i := range n {
		l = append(l, (1-i%2*2)*(1<<i-i))
	}
	return l
}

// text reads octets written as in the chapter, by two digits each; "00*3" is 00 three times.
func text(s string) []byte {
	var out []byte
	for _, word := range strings.Fields(s) {
		digits, times, found := strings.Cut(word, "*")
		n := 1
		if found {
			n, _ = strconv.Atoi(times)
		}
		octet, err := strconv.ParseUint(digits, 16, 8)
		if err != nil {
			panic(err)
		}
		out = append(out, bytes.Repeat([]byte{byte(octet)}, n)...)
	}
	return out
}

// sealed is b and its sum, the lowest octet first.
func sealed(b []byte) []byte {
	return binary.LittleEndian.AppendUint32(slices.Clone(b), crc32.ChecksumIEEE(b))
}

func copied(r wire.Record) wire.Record {
	return wire.Record{Kind: r.Kind, Nums: slices.Clone(r.Nums), Texts: copiedTexts(r.Texts)}
}

func copiedTexts(l [][]byte) [][]byte {
	var out [][]byte
	for _, b := range l {
		out = append(out, slices.Clone(b))
	}
	return out
}

// same and sameTexts take nil and empty lists as one.
func same(a, b wire.Record) bool {
	return a.Kind == b.Kind && slices.Equal(a.Nums, b.Nums) && sameTexts(a.Texts, b.Texts)
}

func sameTexts(a, b [][]byte) bool {
	return slices.EqualFunc(a, b, bytes.Equal)
}

// rightRecords holds records that may be, those at the edges among them.
func rightRecords() map[string]wire.Record {
	long := texts(3, 2)
	long[1] = octets(9, 4096)
	return map[string]wire.Record{
		"zero":         {},
		"empty lists":  {Nums: []int{}, Texts: [][]byte{}},
		"kind 1":       {Kind: 1},
		"kind 128":     {Kind: 128, Nums: []int{5}},
		"kind 255":     {Kind: 255},
		"1 number":     {Kind: 3, Nums: []int{-7}},
		"63 numbers":   {Kind: 3, Nums: numbers(63)},
		"64 numbers":   {Kind: 3, Nums: numbers(64)},
		"far numbers":  {Nums: []int{math.MaxInt, math.MinInt, math.MaxInt - 1, math.MinInt + 1}},
		"nil text":     {Texts: [][]byte{nil}},
		"empty text":   {Texts: [][]byte{{}, {0}, nil}},
		"63 texts":     {Texts: texts(63, 3)},
		"64 texts":     {Texts: texts(64, 1)},
		"4096 octets":  {Kind: 9, Nums: []int{1, 2}, Texts: long},
		"all it takes": {Kind: 255, Nums: slices.Repeat([]int{math.MinInt}, 64), Texts: texts(64, 4096)},
	}
}

// refused is a record that may not be, and the error that it has first.
type refused struct {
	r    wire.Record
	want api.Errno
}

// wrongRecords holds records that may not be, by what is wrong with them.
func wrongRecords() map[string]refused {
	first, last := texts(64, 2), texts(64, 2)
	first[0], last[63] = octets(1, 4097), octets(1, 4097)
	return map[string]refused{
		"kind below":            {wire.Record{Kind: -1}, api.ErrKind},
		"kind above":            {wire.Record{Kind: 256, Nums: []int{1}}, api.ErrKind},
		"kind least":            {wire.Record{Kind: math.MinInt}, api.ErrKind},
		"kind most":             {wire.Record{Kind: math.MaxInt}, api.ErrKind},
		"kind by 2^32":          {wire.Record{Kind: 1<<32 + 1}, api.ErrKind},
		"65 numbers":            {wire.Record{Nums: numbers(65)}, api.ErrCount},
		"256 numbers":           {wire.Record{Nums: make([]int, 256)}, api.ErrCount},
		"5000 numbers":          {wire.Record{Nums: make([]int, 5000)}, api.ErrCount},
		"65 texts":              {wire.Record{Texts: texts(65, 1)}, api.ErrCount},
		"65 nil texts":          {wire.Record{Texts: make([][]byte, 65)}, api.ErrCount},
		"256 texts":             {wire.Record{Texts: make([][]byte, 256)}, api.ErrCount},
		"long first":            {wire.Record{Texts: first}, api.ErrLong},
		"long last":             {wire.Record{Kind: 255, Nums: numbers(64), Texts: last}, api.ErrLong},
		"very long":             {wire.Record{Texts: texts(1, 100000)}, api.ErrLong},
		"kind ahead of numbers": {wire.Record{Kind: 256, Nums: numbers(65)}, api.ErrKind},
		"kind ahead of texts":   {wire.Record{Kind: -1, Texts: texts(65, 4097)}, api.ErrKind},
		"kind ahead of length":  {wire.Record{Kind: -1, Texts: texts(1, 4097)}, api.ErrKind},
		"numbers, length":       {wire.Record{Nums: numbers(65), Texts: texts(1, 4097)}, api.ErrCount},
		"texts, length":         {wire.Record{Texts: texts(65, 4097)}, api.ErrCount},
	}
}

// P5.1: Check, and Encode by its error; the order of errors.
func TestCheck(t *testing.T) {
	for name, r := range rightRecords() {
		if err := wire.Check(r); err != api.OK {
			t.Errorf("%s: Check = %d", name, err)
		}
		if b, err := wire.Encode(r); err != api.OK || len(b) < 7 {
			t.Errorf("%s: Encode = %d octets, %d", name, len(b), err)
		}
	}
	for name, c := range wrongRecords() {
		if err := wire.Check(c.r); err != c.want {
			t.Errorf("%s: Check = %d, want %d", name, err, c.want)
		}
		if b, err := wire.Encode(c.r); err != c.want || len(b) != 0 {
			t.Errorf("%s: Encode = %d octets, %d, want %d", name, len(b), err, c.want)
		}
	}
}

// numberForms holds numbers and their octets, at the edges of what so many groups hold.
func numberForms() map[int]string {
	return map[int]string{
		0: "00", -1: "01", 1: "02", -2: "03", 2: "04",
		63: "7e", -64: "7f", 64: "80 01", -65: "81 01", 65: "82 01",
		127: "fe 01", 128: "80 02", 300: "d8 04",
		8191: "fe 7f", -8192: "ff 7f", 8192: "80 80 01", -8193: "81 80 01",
		1<<31 - 1:       "fe ff ff ff 0f",
		-1 << 31:        "ff ff ff ff 0f",
		1 << 31:         "80 80 80 80 10",
		1<<55 - 1:       "fe ff*6 7f",
		-1 << 55:        "ff*7 7f",
		1 << 55:         "80*8 01",
		1<<62 - 1:       "fe ff*7 7f",
		-1 << 62:        "ff*8 7f",
		1 << 62:         "80*9 01",
		-1<<62 - 1:      "81 80*8 01",
		math.MaxInt:     "fe ff*8 01",
		math.MinInt:     "ff*9 01",
		math.MinInt + 1: "fd ff*8 01",
	}
}

// lengthForms holds lengths and their octets: a length is not folded as a number is.
func lengthForms() map[int]string {
	return map[int]string{
		0: "00", 1: "01", 2: "02", 63: "3f", 64: "40", 127: "7f",
		128: "80 01", 255: "ff 01", 256: "80 02", 300: "ac 02", 4095: "ff 1f", 4096: "80 20",
	}
}

// P5.1, P5.2: each number and each length has one form.
func TestForms(t *testing.T) {
	for n, form := range numberForms() {
		want := sealed(slices.Concat(text("07 01"), text(form), text("00")))
		holdForm(t, wire.Record{Kind: 7, Nums: []int{n}}, want)
	}
	for n, form := range lengthForms() {
		long := octets(n, n)
		want := sealed(slices.Concat(text("ff 00 01"), text(form), long))
		holdForm(t, wire.Record{Kind: 255, Texts: [][]byte{long}}, want)
	}
}

// holdForm tells whether r is laid as want, and want is read as r.
func holdForm(t *testing.T, r wire.Record, want []byte) {
	t.Helper()
	if got, err := wire.Encode(r); err != api.OK || !bytes.Equal(got, want) {
		t.Errorf("Encode(%v) = %x, %d, want %x", r, got, err, want)
	}
	if got, err := wire.Decode(want); err != api.OK || !same(got, r) {
		t.Errorf("Decode(%x) = %v, %d, want %v", want, got, err, r)
	}
}

// P5.1: all parts in their order, with the example of the chapter.
func TestParts(t *testing.T) {
	for form, r := range map[string]wire.Record{
		"00 00 00":                   {},
		"01 03 00 01 80 01 00":       {Kind: 1, Nums: []int{0, -1, 64}},
		"80 00 02 00 00":             {Kind: 128, Texts: [][]byte{nil, {}}},
		"02 01 05 02 01 61 02 62 63": {Kind: 2, Nums: []int{-3}, Texts: [][]byte{[]byte("a"), []byte("bc")}},
		"05 40 02*64 40 00*64":       {Kind: 5, Nums: slices.Repeat([]int{1}, 64), Texts: make([][]byte, 64)},
	} {
		holdForm(t, r, sealed(text(form)))
	}
	b, _ := wire.Encode(wire.Record{Kind: 1, Nums: []int{0, -1, 64}})
	if len(b) != 11 {
		t.Errorf("the example has %d octets", len(b))
	}
}

// P5.2: octets that are no record, sealed: in their order, a number's or length's own fault ahead of what follows.
func TestDecodeRefuses(t *testing.T) {
	for form, want := range map[string]api.Errno{
		"":         api.ErrShort,
		"00":       api.ErrShort,
		"07 00":    api.ErrShort,
		"07 01":    api.ErrShort,
		"07 01 00": api.ErrShort,
		"07 02 00": api.ErrShort,
		// Too many, whether they are there or not.
		"07 41":             api.ErrCount,
		"07 ff":             api.ErrCount,
		"07 41 00*65 00":    api.ErrCount,
		"07 80 00*128 00":   api.ErrCount,
		"07 40 00*63":       api.ErrShort,
		"07 40 00*64":       api.ErrShort,
		"07 00 41":          api.ErrCount,
		"07 00 ff":          api.ErrCount,
		"07 00 41 00*65":    api.ErrCount,
		"07 00 40 00*63":    api.ErrShort,
		"07 41 80 00 41":    api.ErrCount,
		"07 01 80 00 41":    api.ErrRange,
		"07 01 00 41 80 00": api.ErrCount,
		// Numbers that end ahead.
		"07 01 80":       api.ErrShort,
		"07 01 ff ff":    api.ErrShort,
		"07 01 80*9":     api.ErrShort,
		"07 02 80 01 80": api.ErrShort,
		// Numbers of more than 64 bits: told by their tenth octet.
		"07 01 80*9 02 00":    api.ErrRange,
		"07 01 80*9 7f 00":    api.ErrRange,
		"07 01 ff*9 02 00":    api.ErrRange,
		"07 01 ff*9 03 00":    api.ErrRange,
		"07 01 80*10 01 00":   api.ErrRange,
		"07 01 80*9 81 00 00": api.ErrRange,
		"07 01 80*9 81 01 00": api.ErrRange,
		"07 01 ff*10 01 00":   api.ErrRange,
		"07 01 ff*10":         api.ErrRange,
		"07 01 80*10":         api.ErrRange,
		"07 01 80*9 02":       api.ErrRange,
		"07 01 ff*200":        api.ErrRange,
		// A last group that is 0, and not the only one.
		"07 01 80 00 00":    api.ErrRange,
		"07 01 ff 00 00":    api.ErrRange,
		"07 01 80 00":       api.ErrRange,
		"07 01 81 80 00 00": api.ErrRange,
		"07 01 80*8 00 00":  api.ErrRange,
		"07 01 80*9 00 00":  api.ErrRange,
		"07 02 00 81 00 00": api.ErrRange,
		// Lengths: their own fault first, then that they are too great, then that the text ends ahead.
		"07 00 01":                  api.ErrShort,
		"07 00 01 80":               api.ErrShort,
		"07 00 01 ff ff ff":         api.ErrShort,
		"07 00 01 80 00":            api.ErrRange,
		"07 00 01 81 00 61":         api.ErrRange,
		"07 00 01 80*9 02":          api.ErrRange,
		"07 00 01 ff*10 01":         api.ErrRange,
		"07 00 01 ff ff ff 00":      api.ErrRange,
		"07 00 01 81 20":            api.ErrLong,
		"07 00 01 81 20 61*4097":    api.ErrLong,
		"07 00 01 ff ff 03":         api.ErrLong,
		"07 00 01 80*4 08":          api.ErrLong,
		"07 00 01 80*4 10":          api.ErrLong,
		"07 00 01 80*9 01":          api.ErrLong,
		"07 00 01 ff*9 01":          api.ErrLong,
		"07 00 01 80 20 61*4095":    api.ErrShort,
		"07 00 01 80 20":            api.ErrShort,
		"07 00 01 01":               api.ErrShort,
		"07 00 02 00":               api.ErrShort,
		"07 00 02 01 61":            api.ErrShort,
		"07 00 02 01 61 81 20":      api.ErrLong,
		"07 00 02 01 61 80 00":      api.ErrRange,
		"07 00 02 03 61 81 20":      api.ErrShort,
		"07 00 02 02 81 20 00":      api.OK,
		"07 00 02 02 81 20 00 00":   api.ErrTail,
		"07 01 80 00 01 81 20":      api.ErrRange,
		"07 01 01 01 81 20 61*4097": api.ErrLong,
		// Something is left.
		"00*4":                    api.ErrTail,
		"00 00 00 ff":             api.ErrTail,
		"07 01 00 00 00":          api.ErrTail,
		"07 00 01 01 61 62":       api.ErrTail,
		"07 00 01 80 20 61*4097":  api.ErrTail,
		"07 00 00 00*5000":        api.ErrTail,
		"07 40 00*64 40 00*64 00": api.ErrTail,
	} {
		got, err := wire.Decode(sealed(text(form)))
		if err != want {
			t.Errorf("%s: %d, want %d", form, err, want)
		}
		if want != api.OK && !same(got, wire.Record{}) {
			t.Errorf("%s: %v beside the error", form, got)
		}
	}
}

// P5.2: what crc.Open refuses, whatever else is wrong.
func TestDecodeOpens(t *testing.T) {
	for _, n := range []int{0, 1, 2, 3} {
		if got, err := wire.Decode(make([]byte, n)); err != api.ErrShort || !same(got, wire.Record{}) {
			t.Errorf("%d octets: %v, %d", n, got, err)
		}
	}
	if _, err := wire.Decode(nil); err != api.ErrShort {
		t.Errorf("nil: %d", err)
	}
	whole, _ := wire.Encode(wire.Record{Kind: 3, Nums: numbers(9), Texts: texts(3, 5)})
	for bit := range 8 * len(whole) {
		b := slices.Clone(whole)
		b[bit/8] ^= 1 << (bit % 8)
		if got, err := wire.Decode(b); err != api.ErrCorrupt || !same(got, wire.Record{}) {
			t.Errorf("bit %d turned: %v, %d", bit, got, err)
		}
	}
	for n := 4; n < len(whole); n++ {
		if got, err := wire.Decode(whole[:n]); err != api.ErrCorrupt || !same(got, wire.Record{}) {
			t.Errorf("%d of %d octets: %v, %d", n, len(whole), got, err)
		}
	}
	for _, form := range []string{"00 00 00 00 00", "07 41 00 00 00 00", "07 01 80 00 00 00 00 00", "ff*5"} {
		if _, err := wire.Decode(text(form)); err != api.ErrCorrupt {
			t.Errorf("%s: %d", form, err)
		}
	}
}

// P5.2: every beginning of a record ends ahead, and everything behind one is left.
func TestDecodeCut(t *testing.T) {
	b, _ := wire.Encode(wire.Record{Kind: 3, Nums: numbers(60), Texts: append(texts(3, 200), nil, octets(1, 4096))})
	inside := b[:len(b)-4]
	for n := range inside {
		if got, err := wire.Decode(sealed(inside[:n])); err != api.ErrShort || !same(got, wire.Record{}) {
			t.Fatalf("cut at %d: %d", n, err)
		}
	}
	for _, rest := range [][]byte{{0}, {255}, inside, b, octets(1, 5000)} {
		if got, err := wire.Decode(sealed(slices.Concat(inside, rest))); err != api.ErrTail || !same(got, wire.Record{}) {
			t.Errorf("%d octets behind: %d", len(rest), err)
		}
	}
}

// P5.4: Decode of Encode is the record, and the other way.
func TestDecodeOfEncode(t *testing.T) {
	chance := rand.New(rand.NewSource(5))
	list := slices.Collect(maps.Values(rightRecords()))
	for range 500 {
		r := wire.Record{Kind: chance.Intn(256)}
		for range chance.Intn(65) {
			r.Nums = append(r.Nums, int(chance.Uint64()>>chance.Intn(64))*(1-2*chance.Intn(2)))
		}
		for range chance.Intn(65) {
			r.Texts = append(r.Texts, octets(chance.Intn(100), chance.Intn(300)))
		}
		list = append(list, r)
	}
	for _, r := range list {
		b, err := wire.Encode(r)
		if err != api.OK {
			t.Fatalf("Encode: %d", err)
		}
		got, err := wire.Decode(b)
		if err != api.OK || !same(got, r) {
			t.Fatalf("Decode of Encode: %d", err)
		}
		if again, err := wire.Encode(got); err != api.OK || !bytes.Equal(again, b) {
			t.Fatalf("Encode of Decode: %d", err)
		}
	}
}

// joinedForms holds texts and how they are joined.
func joinedForms() map[string][][]byte {
	return map[string][][]byte{
		"":                        nil,
		"00 00":                   {nil},
		"00*4":                    {{}, nil},
		"00 02 61 62 00 00":       {[]byte("ab"), {}},
		"00 00 00 02 61 62":       {nil, []byte("ab")},
		"00 03 00 01 61 00 01 62": {{0, 1, 'a'}, []byte("b")},
		"00 ff 61*255":            {bytes.Repeat([]byte("a"), 255)},
		"01 00 61*256":            {bytes.Repeat([]byte("a"), 256)},
		"01 01 61*257 00 00":      {bytes.Repeat([]byte("a"), 257), nil},
		"10 01 61*4097":           {bytes.Repeat([]byte("a"), 4097)},
		"ff ff 61*65535":          {bytes.Repeat([]byte("a"), 65535)},
		"ff ff 61*65535 00 01 62": {bytes.Repeat([]byte("a"), 65535), []byte("b")},
		"00*8190":                 make([][]byte, 4095),
		"00*8192":                 make([][]byte, 4096),
	}
}

// P5.3, P5.5: Join, and Split back.
func TestJoinAndSplit(t *testing.T) {
	for form, l := range joinedForms() {
		want := text(form)
		if got, err := wire.Join(l); err != api.OK || !bytes.Equal(got, want) {
			t.Errorf("Join of %d texts: %d octets, %d, want %d", len(l), len(got), err, len(want))
		}
		if got, err := wire.Split(want); err != api.OK || !sameTexts(got, l) {
			t.Errorf("Split of %d octets: %d texts, %d, want %d", len(want), len(got), err, len(l))
		}
	}
	many := texts(4096, 300)
	b, err := wire.Join(many)
	if err != api.OK || len(b) != 4096*302 {
		t.Errorf("Join of 4096: %d octets, %d", len(b), err)
	}
	if got, err := wire.Split(b); err != api.OK || !sameTexts(got, many) {
		t.Errorf("Split of 4096: %d, %d", len(got), err)
	}
	for _, l := range [][][]byte{nil, {}} {
		if got, err := wire.Join(l); err != api.OK || len(got) != 0 {
			t.Errorf("Join of none: %v, %d", got, err)
		}
	}
	for _, b := range [][]byte{nil, {}} {
		if got, err := wire.Split(b); err != api.OK || len(got) != 0 {
			t.Errorf("Split of none: %v, %d", got, err)
		}
	}
}

// P5.3: what Join refuses, in order.
func TestJoinRefuses(t *testing.T) {
	long := octets(1, 65536)
	behind := texts(4096, 1)
	behind[4095] = long
	for name, c := range map[string]struct {
		l    [][]byte
		want api.Errno
	}{
		"4097 texts":       {texts(4097, 1), api.ErrCount},
		"4097 nil texts":   {make([][]byte, 4097), api.ErrCount},
		"100000 texts":     {make([][]byte, 100000), api.ErrCount},
		"long by one":      {[][]byte{long}, api.ErrLong},
		"long, not first":  {[][]byte{nil, []byte("a"), long}, api.ErrLong},
		"long last of all": {behind, api.ErrLong},
		"very long":        {[][]byte{make([]byte, 1<<20), nil}, api.ErrLong},
		"many and long":    {slices.Repeat([][]byte{long}, 4097), api.ErrCount},
	} {
		if got, err := wire.Join(c.l); err != c.want || len(got) != 0 {
			t.Errorf("%s: %d octets, %d, want %d", name, len(got), err, c.want)
		}
	}
}

// P5.3: what Split refuses: that it ends ahead is told first, behind however many texts.
func TestSplitRefuses(t *testing.T) {
	for form, want := range map[string]api.Errno{
		"00":                   api.ErrShort,
		"ff":                   api.ErrShort,
		"00 01":                api.ErrShort,
		"00 02 61":             api.ErrShort,
		"01 00 61*255":         api.ErrShort,
		"ff ff 61*65534":       api.ErrShort,
		"00 00 00":             api.ErrShort,
		"00 01 61 00":          api.ErrShort,
		"00 01 61 00 02 62":    api.ErrShort,
		"00*8193":              api.ErrShort,
		"00*8192 00 01":        api.ErrShort,
		"00*8194":              api.ErrCount,
		"00*8192 00 01 61":     api.ErrCount,
		"00*8194 00 02 61":     api.ErrShort,
		"00*8194 00":           api.ErrShort,
		"00*100000":            api.ErrCount,
		"00*100000 00 07 61*6": api.ErrShort,
		"00 01 00 00*8192":     api.ErrCount,
	} {
		if got, err := wire.Split(text(form)); err != want || len(got) != 0 {
			t.Errorf("%s: %d texts, %d, want %d", form, len(got), err, want)
		}
	}
}

// spans tells where the list and each of its texts lie in memory, up to their capacity.
func spans(l [][]byte) [][2]uintptr {
	list := [][2]uintptr{span(l)}
	for _, b := range l {
		list = append(list, span(b))
	}
	return list
}

func span[T any](list []T) [2]uintptr {
	from := uintptr(unsafe.Pointer(unsafe.SliceData(list)))
	return [2]uintptr{from, from + uintptr(cap(list))*unsafe.Sizeof(*new(T))}
}

// apart tells whether no two of the spans overlap.
func apart(list [][2]uintptr) bool {
	list = slices.DeleteFunc(slices.Clone(list), func(s [2]uintptr) bool { return s[0] == s[1] })
	slices.SortFunc(list, func(a, b [2]uintptr) int { return slices.Compare(a[:], b[:]) })
	for i := range list {
		if i > 0 && list[i][0] < list[i-1][1] {
			return false
		}
	}
	return true
}

// answered is what the calls answer of one record and its octets.
type answered struct {
	octets [][]byte
	lists  [][][]byte
	nums   []int
}

func answers(r wire.Record, encoded, joined []byte) answered {
	b, _ := wire.Encode(r)
	d, _ := wire.Decode(encoded)
	j, _ := wire.Join(r.Texts)
	s, _ := wire.Split(joined)
	return answered{[][]byte{b, j}, [][][]byte{d.Texts, s}, d.Nums}
}

func (a answered) spans() [][2]uintptr {
	list := [][2]uintptr{span(a.nums), span(a.octets[0]), span(a.octets[1])}
	return slices.Concat(list, spans(a.lists[0]), spans(a.lists[1]))
}

// spoil writes over all that was answered, up to its capacity.
func (a answered) spoil() {
	clear(a.nums[:cap(a.nums)])
	for _, b := range slices.Concat(a.octets, a.lists[0], a.lists[1]) {
		clear(b[:cap(b)])
	}
}

// P5.6: what is handed in is not changed, and an answer shares no memory with it, with another answer, nor within itself.
func TestMemory(t *testing.T) {
	// Lists that share memory or have room behind them go in as well.
	one := octets(3, 40)
	list := []wire.Record{
		{Kind: 1, Nums: append(make([]int, 0, 64), 1, 2, 3), Texts: append(make([][]byte, 0, 64), one, one, one[:5], one[:0], nil)},
		{Kind: 2, Texts: [][]byte{append(make([]byte, 0, 90), "abc"...)}},
		{Kind: 3, Texts: [][]byte{{}, nil, {}}},
		{Kind: 4, Nums: numbers(64), Texts: texts(64, 7)},
		{Kind: 5, Texts: texts(3, 4096)},
		{},
	}
	for _, r := range list {
		encoded, _ := wire.Encode(r)
		joined, _ := wire.Join(r.Texts)
		// Room behind the octets: a text that is not copied, or that grows, would stand there.
		encoded, joined = append(make([]byte, 0, 2*len(encoded)), encoded...), append(make([]byte, 0, 2*len(joined)+1), joined...)
		before, encodedBefore, joinedBefore := copied(r), slices.Clone(encoded), slices.Clone(joined)
		first, second := answers(r, encoded, joined), answers(r, encoded, joined)
		found := slices.Concat(first.spans(), second.spans())
		if !apart(found) {
			t.Errorf("kind %d: answers share memory", r.Kind)
		}
		for _, given := range append(spans(r.Texts), span(r.Nums), span(encoded), span(joined)) {
			for _, answer := range found {
				if !apart([][2]uintptr{given, answer}) {
					t.Fatalf("kind %d: an answer shares memory with what was handed in", r.Kind)
				}
			}
		}
		first.spoil()
		if !same(r, before) || !bytes.Equal(encoded, encodedBefore) || !bytes.Equal(joined, joinedBefore) {
			t.Errorf("kind %d: what was handed in is changed", r.Kind)
		}
		third := answers(r, encoded, joined)
		if !sameTexts(second.octets, third.octets) || !sameTexts(second.lists[0], third.lists[0]) || !sameTexts(second.lists[1], third.lists[1]) || !slices.Equal(second.nums, third.nums) {
			t.Errorf("kind %d: a call answers otherwise once its answers were written over", r.Kind)
		}
	}
	if r := list[0]; r.Nums[:4][3] != 0 || r.Texts[:6][5] != nil || list[1].Texts[0][:4][3] != 0 {
		t.Error("something stands behind the lists that were handed in")
	}
}

// P3: the same call answers the same again.
func TestAgain(t *testing.T) {
	run := func() []any {
		var all []any
		for _, n := range []int{0, 1, 30, 64, 65} {
			r := wire.Record{Kind: n, Nums: numbers(n), Texts: texts(n, n)}
			b, encodeErr := wire.Encode(r)
			d, decodeErr := wire.Decode(b)
			j, joinErr := wire.Join(r.Texts)
			s, splitErr := wire.Split(j)
			all = append(all, wire.Check(r), b, encodeErr, d, decodeErr, j, joinErr, s, splitErr)
		}
		return all
	}
	if !reflect.DeepEqual(run(), run()) {
		t.Error("the same calls answer otherwise")
	}
}

// FuzzDecode holds Decode of any octets, sealed, to a plain reading of the chapter, and to P5.4.
func FuzzDecode(f *testing.F) {
	for _, form := range []string{"", "00 00 00", "01 03 00 01 80 01 00", "07 01 80 00 00", "07 01 ff*9 01 00", "07 01 80*9 02 00", "07 00 02 01 61 02 62 63", "07 00 01 81 20", "07 41", "07 00 00 00"} {
		f.Add(text(form))
	}
	f.Fuzz(func(t *testing.T, inside []byte) {
		b := sealed(inside)
		got, err := wire.Decode(b)
		want, wantErr := plainRecord(inside)
		if err != wantErr || !same(got, want) {
			t.Fatalf("%x: %v, %d, want %v, %d", inside, got, err, want, wantErr)
		}
		if err == api.OK {
			if again, err := wire.Encode(got); err != api.OK || !bytes.Equal(again, b) {
				t.Fatalf("%x: taken, but Encode of it is %x, %d", b, again, err)
			}
		}
		if _, err := wire.Decode(inside); len(inside) < 4 && err != api.ErrShort {
			t.Fatalf("%x: %d", inside, err)
		}
	})
}

// plainRecord reads a record by the words of the chapter, with numbers of any size.
func plainRecord(b []byte) (wire.Record, api.Errno) {
	var r wire.Record
	at := 0
	if len(b) < 2 {
		return wire.Record{}, api.ErrShort
	}
	r.Kind, at = int(b[0]), 2
	if b[1] > 64 {
		return wire.Record{}, api.ErrCount
	}
	for range b[1] {
		m, next, err := plainNumber(b, at)
		if err != api.OK {
			return wire.Record{}, err
		}
		at = next
		r.Nums = append(r.Nums, plainUnfolded(m))
	}
	if at == len(b) {
		return wire.Record{}, api.ErrShort
	}
	count := b[at]
	at++
	if count > 64 {
		return wire.Record{}, api.ErrCount
	}
	for range count {
		m, next, err := plainNumber(b, at)
		if err != api.OK {
			return wire.Record{}, err
		}
		at = next
		if m.Cmp(big.NewInt(4096)) > 0 {
			return wire.Record{}, api.ErrLong
		}
		n := int(m.Int64())
		if at+n > len(b) {
			return wire.Record{}, api.ErrShort
		}
		r.Texts = append(r.Texts, b[at:at+n])
		at += n
	}
	if at < len(b) {
		return wire.Record{}, api.ErrTail
	}
	return r, api.OK
}

// plainNumber finds the groups of a number, and adds them up; ten groups that ask for one more are a fault of their own.
func plainNumber(b []byte, at int) (*big.Int, int, api.Errno) {
	end := at
	for end < len(b) && end < at+10 && b[end] >= 128 {
		end++
	}
	if end == at+10 {
		return nil, 0, api.ErrRange
	}
	if end == len(b) {
		return nil, 0, api.ErrShort
	}
	m := new(big.Int)
	for i := end; i >= at; i-- {
		m.Lsh(m, 7).Add(m, big.NewInt(int64(b[i]%128)))
	}
	if m.BitLen() > 64 || end > at && b[end] == 0 {
		return nil, 0, api.ErrRange
	}
	return m, end + 1, api.OK
}

// plainUnfolded is n of m: m is 2 n, or -2 n - 1 where it is odd.
func plainUnfolded(m *big.Int) int {
	n := new(big.Int).Set(m)
	if n.Bit(0) == 1 {
		n.Add(n, big.NewInt(1)).Neg(n)
	}
	return int(n.Quo(n, big.NewInt(2)).Int64())
}

// FuzzEncode lays any record, and reads it back (P5.4).
func FuzzEncode(f *testing.F) {
	f.Add(0, 0, 0, []byte{}, []byte{}, 0)
	f.Add(255, -1, math.MinInt, []byte("a"), octets(1, 4096), 64)
	f.Add(256, math.MaxInt, 1, []byte("a"), []byte("b"), 65)
	f.Add(-1, 64, -65, octets(1, 4097), []byte("b"), 3)
	f.Fuzz(func(t *testing.T, kind, a, b int, x, y []byte, times int) {
		times = max(0, min(times, 70))
		r := wire.Record{Kind: kind, Nums: slices.Repeat([]int{a, b}, times/2), Texts: slices.Repeat([][]byte{x, y}, times/2)}
		want := api.OK
		switch {
		case kind < 0 || kind > 255:
			want = api.ErrKind
		case len(r.Nums) > 64:
			want = api.ErrCount
		case times > 1 && max(len(x), len(y)) > 4096:
			want = api.ErrLong
		}
		encoded, err := wire.Encode(r)
		if err != want || wire.Check(r) != want {
			t.Fatalf("%v: %d, want %d", r, err, want)
		}
		if want != api.OK {
			return
		}
		if got, err := wire.Decode(encoded); err != api.OK || !same(got, r) {
			t.Fatalf("%v: %v, %d", r, got, err)
		}
	})
}

// FuzzSplit holds Split of any octets to a plain reading, and to P5.5.
func FuzzSplit(f *testing.F) {
	for _, form := range []string{"", "00", "00 00", "00 02 61 62 00 00", "00 02 61", "01 00 61*256", "00*8192", "00*8193", "00*8194"} {
		f.Add(text(form))
	}
	f.Fuzz(func(t *testing.T, b []byte) {
		var want [][]byte
		wantErr := api.OK
		for at := 0; at < len(b); {
			if at+2 > len(b) || at+2+int(binary.BigEndian.Uint16(b[at:])) > len(b) {
				wantErr = api.ErrShort
				break
			}
			n := int(binary.BigEndian.Uint16(b[at:]))
			want = append(want, b[at+2:at+2+n])
			at += 2 + n
		}
		if wantErr == api.OK && len(want) > 4096 {
			wantErr = api.ErrCount
		}
		if wantErr != api.OK {
			want = nil
		}
		got, err := wire.Split(b)
		if err != wantErr || !sameTexts(got, want) {
			t.Fatalf("%x: %d texts, %d, want %d, %d", b, len(got), err, len(want), wantErr)
		}
		if err != api.OK {
			return
		}
		if again, err := wire.Join(got); err != api.OK || !bytes.Equal(again, b) {
			t.Fatalf("%x: Join of Split is %x, %d", b, again, err)
		}
	})
}
