package point_test

import (
	"bytes"
	"encoding/binary"
	"math"
	"math/rand"
	"slices"
	"strconv"
	"testing"

	"undercroft/api"
	"undercroft/point"
	"undercroft/wire"
)

// refuses tells whether Decode answers that error, and nothing beside it.
func refuses(t *testing.T, name string, b []byte, want api.Errno) {
	t.Helper()
	if p, err := point.Decode(b); err != want || !isNone(p) {
		t.Errorf("%s: Decode = %v, %d, want %d", name, p, err, want)
	}
}

// P17.1: not 512 octets, whatever else is wrong or right with them.
func TestDecodeCount(t *testing.T) {
	b := form(made(7, 30))
	refuses(t, "nil", nil, api.ErrCount)
	refuses(t, "empty", []byte{}, api.ErrCount)
	for n := range whole {
		refuses(t, strconv.Itoa(n)+" octets", b[:n], api.ErrCount)
		refuses(t, strconv.Itoa(n)+" ones", bytes.Repeat([]byte{255}, n), api.ErrCount)
	}
	for _, more := range []int{1, 2, 64, 512, 100000} {
		refuses(t, "more by "+strconv.Itoa(more), append(slices.Clone(b), make([]byte, more)...), api.ErrCount)
	}
}

// measured is b, but its first text is said to be of n octets.
func measured(b []byte, n int) []byte {
	b = slices.Clone(b)
	binary.BigEndian.PutUint16(b, uint16(n))
	return b
}

// P17.1: a first text that reaches beyond the octets, whatever else is wrong.
func TestDecodeLength(t *testing.T) {
	good := form(made(7, 30))
	for n := 511; n < 1<<16; n++ {
		refuses(t, "a text of "+strconv.Itoa(n), measured(good, n), api.ErrLong)
	}
	for _, n := range []int{511, 512, 513, 1024, 1<<15 + 40, 1<<16 - 1} {
		refuses(t, "zeros, a text of "+strconv.Itoa(n), measured(make([]byte, whole), n), api.ErrLong)
		refuses(t, "ones, a text of "+strconv.Itoa(n), measured(bytes.Repeat([]byte{255}, whole), n), api.ErrLong)
	}
	// Every other length has its say: that of the record alone fits.
	for n := range 511 {
		if n == int(good[1]) {
			continue
		}
		want := api.ErrCorrupt
		if n < 4 {
			want = api.ErrShort
		}
		refuses(t, "another text of "+strconv.Itoa(n), measured(good, n), want)
	}
	// The highest octet comes first.
	turned := measured(make([]byte, whole), len(record(7, []int{1, 2, 3, 4}, nil))<<8)
	copy(turned[2:], record(7, []int{1, 2, 3, 4}, nil))
	refuses(t, "the lowest octet first", turned, api.ErrLong)
}

// misfit is octets of a region, and what is wrong with them first.
type misfit struct {
	octets []byte
	want   api.Errno
}

type putter func(name string, text []byte, want api.Errno)

// misfits holds 512 octets whose first text is in them, and that are no point all the same.
func misfits() map[string]misfit {
	all := map[string]misfit{}
	put := func(name string, text []byte, want api.Errno) {
		all[name] = misfit{laid(text), want}
		if 2+len(text) == whole {
			return
		}
		// What is left behind is asked for last.
		tail := laid(text)
		tail[whole-1] = 1
		all[name+" and tail"] = misfit{tail, want}
	}
	noRecords(put)
	otherRecords(put)
	for _, c := range wrongPoints() {
		if len(c.p.Data) < 450 {
			put("a point "+strconv.Itoa(len(all)), record(7, nums(c.p), c.p.Data), c.want)
		}
	}
	tails(all)
	return all
}

// noRecords puts texts that wire.Decode refuses, with kinds that would be refused behind it, too.
func noRecords(put putter) {
	put("no text", nil, api.ErrShort)
	put("no room for a sum", []byte{7, 4, 0}, api.ErrShort)
	put("a sum alone", summed(nil), api.ErrShort)
	for _, kind := range []byte{0, 6, 7, 8, 255} {
		name := "kind " + strconv.Itoa(int(kind)) + ", "
		fits := record(kind, []int{1, 2, 3, 4}, []byte("abc"))
		head := fits[:len(fits)-4]
		for n := range head {
			put(name+"cut at "+strconv.Itoa(n), summed(head[:n]), api.ErrShort)
		}
		put(name+"something behind it", summed(append(slices.Clone(head), 0)), api.ErrTail)
		put(name+"a number of two groups that needs one", summed([]byte{kind, 4, 2, 4, 6, 0x88, 0, 1, 0}), api.ErrRange)
		put(name+"65 numbers", summed(append([]byte{kind, 65}, make([]byte, 66)...)), api.ErrCount)
		put(name+"65 texts", summed(append([]byte{kind, 0, 65}, make([]byte, 65)...)), api.ErrCount)
		put(name+"a text that is too long", summed([]byte{kind, 4, 2, 4, 6, 8, 1, 0x81, 0x20}), api.ErrLong)
		for bit := range 8 * len(fits) {
			spoiled := slices.Clone(fits)
			spoiled[bit/8] ^= 1 << (bit % 8)
			put(name+"bit "+strconv.Itoa(bit), spoiled, api.ErrCorrupt)
		}
	}
}

// otherRecords puts records that are no point's, with faults that would be told behind that, too.
func otherRecords(put putter) {
	right, wrong := []int{1, 2, 3, 4}, []int{1, -2, 3, highest + 1}
	data, long := []byte("abc"), text(1, 401)
	for kind := range 256 {
		if kind == 7 {
			continue
		}
		name, kind := "kind "+strconv.Itoa(kind), byte(kind)
		put(name, record(kind, right, data), api.ErrKind)
		put(name+", nothing in it", record(kind, nil), api.ErrKind)
		put(name+", five numbers", record(kind, append(right[:4:4], 5), data), api.ErrKind)
		put(name+", no text", record(kind, right), api.ErrKind)
		put(name+", numbers", record(kind, wrong, data), api.ErrKind)
		put(name+", long", record(kind, right, long), api.ErrKind)
	}
	for _, n := range []int{0, 1, 2, 3, 5, 6, 8, 64} {
		for _, one := range []int{0, 1, -1, math.MinInt} {
			name, numbers := strconv.Itoa(n)+" numbers of "+strconv.Itoa(one), slices.Repeat([]int{one}, n)
			if n*10 > 400 {
				numbers = slices.Repeat([]int{one % 2}, n)
			}
			put(name, record(7, numbers, data), api.ErrCount)
			put(name+", no text", record(7, numbers), api.ErrCount)
			put(name+", two texts", record(7, numbers, data, data), api.ErrCount)
		}
	}
	for _, n := range []int{0, 2, 3, 64} {
		name, texts := strconv.Itoa(n)+" texts", make([][]byte, n)
		put(name, record(7, right, texts...), api.ErrCount)
		put(name+", numbers", record(7, wrong, texts...), api.ErrCount)
	}
	put("two texts, one long", record(7, right, long, data), api.ErrCount)
	put("two texts, the last one long", record(7, right, nil, long), api.ErrCount)
	// With 497 octets the record fills all that there is.
	for _, n := range []int{401, 402, 450, 496, 497} {
		put("data of "+strconv.Itoa(n), record(7, right, text(2, n)), api.ErrLong)
	}
}

// tails puts octets behind points that would be taken else.
func tails(all map[string]misfit) {
	for name, p := range rightPoints() {
		b := form(p)
		for at := 2 + int(binary.BigEndian.Uint16(b)); at < whole; at++ {
			tail := slices.Clone(b)
			tail[at] = byte(1 << (at % 8))
			all[name+", tail at "+strconv.Itoa(at)] = misfit{tail, api.ErrTail}
		}
		again := slices.Clone(b)
		at := 2 + int(binary.BigEndian.Uint16(b))
		copy(again[at:], b[:at])
		all[name+", another text behind"] = misfit{again, api.ErrTail}
	}
}

// P17.1: the first of what is wrong.
func TestDecodeRefuses(t *testing.T) {
	for name, c := range misfits() {
		refuses(t, name, c.octets, c.want)
	}
}

// P17.1: what looks like a fault and is none.
func TestDecodeTakes(t *testing.T) {
	for name, p := range map[string]point.Point{
		"the highest numbers":        {highest, highest, highest, highest, nil},
		"an epoch below seq":         {1, 9, 3, 2, text(1, 3)},
		"400 octets":                 {0, 0, 0, 0, text(4, longest)},
		"data that is a point again": {1, 2, 3, 4, form(made(3, 9))[:200]},
	} {
		if got, err := point.Decode(form(p)); err != api.OK || !same(got, p) {
			t.Errorf("%s: Decode = %v, %d", name, got, err)
		}
	}
}

// decoded is what Decode answers, by a plain reading of the chapter.
func decoded(b []byte) (point.Point, api.Errno) {
	if len(b) != whole {
		return point.Point{}, api.ErrCount
	}
	end := 2 + int(b[0])*256 + int(b[1])
	if end > whole {
		return point.Point{}, api.ErrLong
	}
	r, err := wire.Decode(b[2:end])
	if err != api.OK {
		return point.Point{}, err
	}
	if r.Kind != 7 {
		return point.Point{}, api.ErrKind
	}
	if len(r.Nums) != 4 || len(r.Texts) != 1 {
		return point.Point{}, api.ErrCount
	}
	for _, n := range r.Nums {
		if n < 0 || n > highest {
			return point.Point{}, api.ErrRange
		}
	}
	if len(r.Texts[0]) > longest {
		return point.Point{}, api.ErrLong
	}
	for _, octet := range b[end:] {
		if octet != 0 {
			return point.Point{}, api.ErrTail
		}
	}
	return point.Point{Epoch: r.Nums[0], Seq: r.Nums[1], View: r.Nums[2], Commit: r.Nums[3], Data: r.Texts[0]}, api.OK
}

// spoilt is octets like those of a point, with some of them changed, and mostly a sum that fits.
func spoilt(chance *rand.Rand) []byte {
	kinds := []byte{7, 7, 7, 7, 7, 7, 6, 8}
	numbers := make([]int, []int{4, 4, 4, 4, 4, 4, 3, 5}[chance.Intn(8)])
	for i := range numbers {
		numbers[i] = anyNumber(chance)
		if chance.Intn(20) == 0 {
			numbers[i] = []int{-1, highest + 1, math.MinInt, math.MaxInt}[chance.Intn(4)]
		}
	}
	texts := make([][]byte, []int{1, 1, 1, 1, 1, 1, 0, 2}[chance.Intn(8)])
	for i := range texts {
		texts[i] = text(chance.Intn(99), []int{0, 3, 130, 200, 399, 400, 401}[chance.Intn(7)]/len(texts))
	}
	r := record(kinds[chance.Intn(8)], numbers, texts...)
	for range chance.Intn(2) * chance.Intn(3) {
		r[chance.Intn(min(len(r), 20))] = []byte{0, 1, 4, 7, 64, 65, 127, 128, 255, byte(chance.Intn(256))}[chance.Intn(10)]
	}
	if chance.Intn(8) > 0 {
		r = summed(r[:len(r)-4])
	}
	b := laid(r)
	switch chance.Intn(12) {
	case 0:
		b[chance.Intn(2)] ^= 1 << chance.Intn(8)
	case 1, 2:
		b[chance.Intn(whole)] ^= 1 << chance.Intn(8)
	case 3:
		b[whole-1-chance.Intn(60)] = byte(chance.Intn(3))
	}
	return b
}

// P17.1, P17.3: spoilt octets are decoded as the chapter says; what Decode takes is Encode of it.
func TestDecodeSpoilt(t *testing.T) {
	chance := rand.New(rand.NewSource(172))
	told := map[api.Errno]int{}
	for range 40000 {
		b := spoilt(chance)
		holdDecode(t, b)
		_, err := point.Decode(b)
		told[err]++
	}
	for _, err := range []api.Errno{api.OK, api.ErrLong, api.ErrShort, api.ErrCorrupt, api.ErrKind, api.ErrCount, api.ErrRange, api.ErrTail} {
		if told[err] < 100 {
			t.Errorf("error %d is told %d times", err, told[err])
		}
	}
}

// holdDecode holds what Decode answers to the plain reading, and Encode of what it takes to the octets.
func holdDecode(t *testing.T, b []byte) {
	t.Helper()
	want, wantErr := decoded(b)
	got, err := point.Decode(b)
	if err != wantErr || !same(got, want) {
		t.Fatalf("Decode(%x) = %v, %d, want %v, %d", b, got, err, want, wantErr)
	}
	if err != api.OK {
		return
	}
	if again, err := point.Encode(got); err != api.OK || !bytes.Equal(again, b) {
		t.Fatalf("Encode of Decode(%x) = %x, %d", b, again, err)
	}
}

// P1: Decode ends on octets of chance, too, with a sum that fits.
func TestDecodeChance(t *testing.T) {
	chance := rand.New(rand.NewSource(173))
	for range 5000 {
		b := make([]byte, chance.Intn(500))
		chance.Read(b)
		if len(b) > 1 && chance.Intn(2) == 0 {
			b[0], b[1] = 7, 4
		}
		holdDecode(t, laid(summed(b)))
	}
}

// FuzzDecode holds Decode of any octets, filled up to 512, to the plain reading of the chapter.
func FuzzDecode(f *testing.F) {
	f.Add([]byte{}, false)
	f.Add([]byte{7, 4, 0, 0, 0, 0, 1, 0}, true)
	f.Add(form(made(3, 40)), false)
	f.Add([]byte{7, 4, 1, 0, 0, 0, 1, 3, 'a', 'b', 'c'}, true)
	f.Fuzz(func(t *testing.T, b []byte, seal bool) {
		if seal && len(b) < 500 {
			b = laid(summed(b))
		}
		holdDecode(t, b)
	})
}
