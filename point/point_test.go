package point_test

import (
	"bytes"
	"encoding/binary"
	"encoding/hex"
	"hash/crc32"
	"math"
	"math/rand"
	"slices"
	"strings"
	"testing"

	"undercroft/api"
	"undercroft/disk"
	"undercroft/point"
)

// The faces keep the signatures of the chapter.
var (
	_ func(point.Point) api.Errno                           = point.Check
	_ func(point.Point) ([]byte, api.Errno)                 = point.Encode
	_ func([]byte) (point.Point, api.Errno)                 = point.Decode
	_ func(disk.State, point.Point) (disk.State, api.Errno) = point.Store
	_ func(disk.State) (point.Point, api.Errno)             = point.Load
	_ struct {
		Epoch, Seq, View, Commit int
		Data                     []byte
	} = point.Point{}
)

const (
	highest = 1 << 40
	longest = 400
	whole   = 512
	sector  = 64
	turn    = 8
)

// text is n octets, none of them 0, unlike their neighbours and those of other seeds.
func text(seed, n int) []byte {
	b := make([]byte, n)
	for i := range b {
		b[i] = byte(1 + (seed*37+i*5)%255)
	}
	return b
}

// made is a point of that epoch, with so many octets.
func made(epoch, size int) point.Point {
	return point.Point{Epoch: epoch, Seq: (epoch*10 + 7) % highest, View: epoch % 5, Commit: (epoch + 200) % highest, Data: text(epoch, size)}
}

// record is a record's octets as chapter 5 lays them, by the library's own forms of numbers and sums.
func record(kind byte, nums []int, texts ...[]byte) []byte {
	b := []byte{kind, byte(len(nums))}
	for _, n := range nums {
		b = binary.AppendVarint(b, int64(n))
	}
	b = append(b, byte(len(texts)))
	for _, one := range texts {
		b = binary.AppendUvarint(b, uint64(len(one)))
		b = append(b, one...)
	}
	return summed(b)
}

// summed is b and its sum, the lowest octet first.
func summed(b []byte) []byte {
	return binary.LittleEndian.AppendUint32(slices.Clone(b), crc32.ChecksumIEEE(b))
}

// laid is a text behind its length, and zeros up to 512 octets.
func laid(b []byte) []byte {
	out := make([]byte, whole)
	binary.BigEndian.PutUint16(out, uint16(len(b)))
	copy(out[2:], b)
	return out
}

func nums(p point.Point) []int {
	return []int{p.Epoch, p.Seq, p.View, p.Commit}
}

// form is a point's octets as the chapter lays them.
func form(p point.Point) []byte {
	return laid(record(7, nums(p), p.Data))
}

// same takes nil and empty lists as one.
func same(a, b point.Point) bool {
	return slices.Equal(nums(a), nums(b)) && bytes.Equal(a.Data, b.Data)
}

func isNone(p point.Point) bool {
	return same(p, point.Point{})
}

// rightPoints holds points that may be, those at the edges among them.
func rightPoints() map[string]point.Point {
	return map[string]point.Point{
		"zero":            {},
		"no octets":       made(3, 0),
		"one octet":       made(4, 1),
		"a zero":          {Epoch: 1, Data: []byte{0}},
		"zeros at an end": {Epoch: 1, Data: []byte{1, 0, 0}},
		"some":            made(5, 20),
		"63 groups":       {Epoch: 63, Seq: 64, View: 127, Commit: 128, Data: text(9, 127)},
		"128 octets":      made(6, 128),
		"399 octets":      made(7, 399),
		"400 octets":      made(8, longest),
		"400 zeros":       {Epoch: 9, Data: make([]byte, longest)},
		"the epoch alone": {Epoch: highest},
		"the seq alone":   {Seq: highest},
		"the view alone":  {View: highest},
		"commit alone":    {Commit: highest},
		"all it takes":    {highest, highest, highest, highest, bytes.Repeat([]byte{255}, longest)},
		"all but one":     {highest - 1, highest - 1, highest - 1, highest - 1, text(1, longest-1)},
		"each its own":    {Epoch: 1, Seq: 2, View: 3, Commit: 4, Data: []byte("five")},
	}
}

// wrongPoint is a point that may not be, and what it is refused for.
type wrongPoint struct {
	p    point.Point
	want api.Errno
}

// wrongPoints holds each number out of its range, data that is too long, and both.
func wrongPoints() []wrongPoint {
	var list []wrongPoint
	for _, n := range []int{math.MinInt, math.MinInt + 1, -highest, -2, -1, highest + 1, highest + 2, 1 << 41, 1 << 62, math.MaxInt} {
		for _, size := range []int{0, 5, longest, longest + 1} {
			for place := range 4 {
				p := made(2, size)
				*[]*int{&p.Epoch, &p.Seq, &p.View, &p.Commit}[place] = n
				list = append(list, wrongPoint{p, api.ErrRange})
			}
		}
	}
	for _, size := range []int{401, 402, 433, 510, 512, 4096, 4097, 65535, 65536, 100000} {
		list = append(list, wrongPoint{made(2, size), api.ErrLong}, wrongPoint{point.Point{Data: make([]byte, size)}, api.ErrLong})
	}
	return list
}

// P17.1: what may be, and Encode and Decode of it. P17.3: Decode of Encode is the point.
func TestRight(t *testing.T) {
	for name, p := range rightPoints() {
		if err := point.Check(p); err != api.OK {
			t.Errorf("%s: Check = %d", name, err)
		}
		b, err := point.Encode(p)
		if err != api.OK || !bytes.Equal(b, form(p)) {
			t.Errorf("%s: Encode = %x, %d, want %x", name, b, err, form(p))
		}
		if got, err := point.Decode(b); err != api.OK || !same(got, p) {
			t.Errorf("%s: Decode = %v, %d, want %v", name, got, err, p)
		}
	}
}

// P17.1: a number's fault goes ahead of that of the data.
func TestWrong(t *testing.T) {
	for _, c := range wrongPoints() {
		if err := point.Check(c.p); err != c.want {
			t.Errorf("Check(%v of %d) = %d, want %d", nums(c.p), len(c.p.Data), err, c.want)
		}
		if b, err := point.Encode(c.p); err != c.want || len(b) > 0 {
			t.Errorf("Encode(%v of %d) = %x, %d, want %d", nums(c.p), len(c.p.Data), b, err, c.want)
		}
	}
}

// P17.1: some octets worked out by hand, but for their sum: 7, four numbers doubled, one text.
func TestForm(t *testing.T) {
	for want, p := range map[string]point.Point{
		"000c 07 04 00000000 01 00":                                                                 {},
		"000f 07 04 02140608 01 03 616263":                                                          {Epoch: 1, Seq: 10, View: 3, Commit: 4, Data: []byte("abc")},
		"001e 07 04 808080808040 808080808040 00 8001 01 07 00010203040506":                         {Epoch: highest, Seq: highest, Commit: 64, Data: []byte{0, 1, 2, 3, 4, 5, 6}},
		"008d 07 04 00000000 01 8001 " + strings.Repeat("5a", 128):                                  {Data: bytes.Repeat([]byte{0x5a}, 128)},
		"01b1 07 04 " + strings.Repeat("808080808040", 4) + " 01 9003 " + strings.Repeat("ff", 400): {highest, highest, highest, highest, bytes.Repeat([]byte{255}, 400)},
	} {
		octets, err := hex.DecodeString(strings.ReplaceAll(want, " ", ""))
		if err != nil {
			t.Fatal(err)
		}
		octets = append(octets[:2:2], summed(octets[2:])...)
		octets = append(octets, make([]byte, whole-len(octets))...)
		if b, err := point.Encode(p); err != api.OK || !bytes.Equal(b, octets) {
			t.Errorf("Encode(%v) = %x, %d, want %x", p, b, err, octets)
		}
	}
}

func anyNumber(chance *rand.Rand) int {
	return chance.Intn(1<<chance.Intn(41) + 1)
}

func anyPoint(chance *rand.Rand) point.Point {
	data := make([]byte, chance.Intn([]int{1, 12, 130, longest + 1}[chance.Intn(4)]))
	chance.Read(data)
	return point.Point{Epoch: anyNumber(chance), Seq: anyNumber(chance), View: anyNumber(chance), Commit: anyNumber(chance), Data: data}
}

// P17.3: Decode of Encode is the point, for points by chance; P17.1: so they are laid.
func TestByChance(t *testing.T) {
	chance := rand.New(rand.NewSource(171))
	for range 20000 {
		p := anyPoint(chance)
		b, err := point.Encode(p)
		if err != api.OK || !bytes.Equal(b, form(p)) {
			t.Fatalf("Encode(%v) = %x, %d, want %x", p, b, err, form(p))
		}
		if got, err := point.Decode(b); err != api.OK || !same(got, p) {
			t.Fatalf("Decode = %v, %d, want %v", got, err, p)
		}
	}
}
