package crc_test

import (
	"bytes"
	"hash/crc32"
	"math"
	"math/rand"
	"testing"

	"undercroft/api"
	"undercroft/crc"
)

// The faces keep the signatures of the chapter.
var (
	_ func([]byte) uint32              = crc.Sum
	_ func(uint32, []byte) uint32      = crc.Extend
	_ func([]byte) []byte              = crc.Seal
	_ func([]byte) ([]byte, api.Errno) = crc.Open
)

// sealedSum is the one sum of all that is sealed (P2.6).
const sealedSum = 0x2144df1c

// texts holds texts of each length up to 70, some of one octet only, and one of all octets.
func texts() [][]byte {
	all := make([]byte, 256)
	for i := range all {
		all[i] = byte(i)
	}
	list := [][]byte{nil, {}, {0}, {255}, make([]byte, 64), bytes.Repeat([]byte{255}, 64), []byte("123456789"), all}
	chance := rand.New(rand.NewSource(1))
	for n := range 70 {
		b := make([]byte, n)
		chance.Read(b)
		list = append(list, b)
	}
	long := make([]byte, 10007)
	chance.Read(long)
	return append(list, long)
}

// starts holds sums to go on from.
func starts() []uint32 {
	list := []uint32{0, 1, 0x80000000, math.MaxUint32, 0xedb88320, sealedSum}
	chance := rand.New(rand.NewSource(2))
	for range 20 {
		list = append(list, chance.Uint32())
	}
	return list
}

// bitByBit is P2.1 by its words.
func bitByBit(register uint32, b []byte) uint32 {
	for _, octet := range b {
		register ^= uint32(octet)
		for range 8 {
			out := register & 1
			register >>= 1
			if out == 1 {
				register ^= 0xedb88320
			}
		}
	}
	return ^register
}

// P2.1: Sum, of known texts.
func TestSumKnown(t *testing.T) {
	for _, c := range []struct {
		b    string
		want uint32
	}{
		{"", 0},
		{"\x00", 0xd202ef8d},
		{"\xff", 0xff000000},
		{"a", 0xe8b7be43},
		{"abc", 0x352441c2},
		{"123456789", 0xcbf43926},
		{"\x00\x00\x00\x00", sealedSum},
		{"\xff\xff\xff\xff", 0xffffffff},
		{"The quick brown fox jumps over the lazy dog", 0x414fa339},
	} {
		if got := crc.Sum([]byte(c.b)); got != c.want {
			t.Errorf("Sum(%q) = %08x, want %08x", c.b, got, c.want)
		}
	}
	if got := crc.Sum(nil); got != 0 {
		t.Errorf("Sum(nil) = %08x", got)
	}
}

// P2.1: Sum is what the words say, for every octet and for texts of many lengths.
func TestSumByWords(t *testing.T) {
	for i := range 256 {
		b := []byte{byte(i)}
		if got, want := crc.Sum(b), bitByBit(math.MaxUint32, b); got != want {
			t.Errorf("Sum(%x) = %08x, want %08x", b, got, want)
		}
	}
	for _, b := range texts() {
		want := bitByBit(math.MaxUint32, b)
		if got := crc.Sum(b); got != want || got != crc32.ChecksumIEEE(b) {
			t.Errorf("Sum(%x) = %08x, want %08x", b, got, want)
		}
	}
}

// P2.1: Extend is what the words say, from any sum on.
func TestExtendByWords(t *testing.T) {
	for _, c := range starts() {
		for _, b := range texts() {
			if got, want := crc.Extend(c, b), bitByBit(^c, b); got != want {
				t.Errorf("Extend(%08x, %x) = %08x, want %08x", c, b, got, want)
			}
		}
		if got := crc.Extend(c, nil); got != c {
			t.Errorf("Extend(%08x, nil) = %08x", c, got)
		}
	}
}

// P2.2: Seal.
func TestSeal(t *testing.T) {
	for _, c := range []struct{ b, want string }{
		{"", "\x00\x00\x00\x00"},
		{"\x00", "\x00\x8d\xef\x02\xd2"},
		{"a", "a\x43\xbe\xb7\xe8"},
		{"123456789", "123456789\x26\x39\xf4\xcb"},
	} {
		if got := crc.Seal([]byte(c.b)); string(got) != c.want {
			t.Errorf("Seal(%q) = %x, want %x", c.b, got, c.want)
		}
	}
	if got := crc.Seal(nil); !bytes.Equal(got, make([]byte, 4)) {
		t.Errorf("Seal(nil) = %x", got)
	}
}

// P2.2: Open tells what was sealed.
func TestOpenOfSeal(t *testing.T) {
	for _, b := range texts() {
		if got, err := crc.Open(crc.Seal(b)); err != api.OK || !bytes.Equal(got, b) {
			t.Errorf("Open(Seal(%x)) = %x, %d", b, got, err)
		}
		twice := crc.Seal(crc.Seal(b))
		if got, err := crc.Open(twice); err != api.OK || !bytes.Equal(got, crc.Seal(b)) {
			t.Errorf("Open(Seal(Seal(%x))) = %x, %d", b, got, err)
		}
	}
}

// P2.2: Open's errors.
func TestOpenErrors(t *testing.T) {
	for _, c := range []struct {
		b    string
		want api.Errno
	}{
		{"", api.ErrShort},
		{"\x00", api.ErrShort},
		{"\x00\x00\x00", api.ErrShort},
		{"\xff\xff\xff", api.ErrShort},
		{"\x00\x00\x00\x01", api.ErrCorrupt},
		{"\x01\x00\x00\x00", api.ErrCorrupt},
		{"\xff\xff\xff\xff", api.ErrCorrupt},
		{"\x00\x00\x00\x00\x00", api.ErrCorrupt},
		{"a", api.ErrShort},
		{"a\x43\xbe\xb7", api.ErrCorrupt},
		{"a\x43\xbe\xb7\xe9", api.ErrCorrupt},
		{"a\xe8\xb7\xbe\x43", api.ErrCorrupt}, // the highest octet first
		{"a\x43\xbe\xb7\xe8\x00", api.ErrCorrupt},
		{"\x00a\x43\xbe\xb7\xe8", api.ErrCorrupt},
		{"b\x43\xbe\xb7\xe8", api.ErrCorrupt},
	} {
		if got, err := crc.Open([]byte(c.b)); err != c.want || len(got) != 0 {
			t.Errorf("Open(%x) = %x, %d, want error %d", c.b, got, err, c.want)
		}
	}
	if got, err := crc.Open(nil); err != api.ErrShort || len(got) != 0 {
		t.Errorf("Open(nil) = %x, %d", got, err)
	}
	if got, err := crc.Open(make([]byte, 4)); err != api.OK || len(got) != 0 {
		t.Errorf("Open of nothing, sealed = %x, %d", got, err)
	}
}

// P2.2: what is sealed and cut anywhere is not told as whole, unless what is left happens to be sealed.
func TestOpenCut(t *testing.T) {
	sealed := crc.Seal([]byte("a text that is cut"))
	for n := range sealed {
		want := api.ErrCorrupt
		if n < 4 {
			want = api.ErrShort
		}
		if got, err := crc.Open(sealed[:n]); err != want || len(got) != 0 {
			t.Errorf("Open(%x) = %x, %d, want error %d", sealed[:n], got, err, want)
		}
	}
}

// P2.3: Extend goes on: wherever a text is parted, the sum is one.
func TestExtendGoesOn(t *testing.T) {
	for _, b := range texts() {
		if got := crc.Extend(0, b); got != crc.Sum(b) {
			t.Errorf("Extend(0, %x) = %08x", b, got)
		}
		for at := range min(len(b), 300) + 1 {
			if got := crc.Extend(crc.Sum(b[:at]), b[at:]); got != crc.Sum(b) {
				t.Fatalf("%x parted at %d: %08x, want %08x", b, at, got, crc.Sum(b))
			}
		}
		c := uint32(0)
		for i := range b {
			c = crc.Extend(c, b[i:i+1])
		}
		if c != crc.Sum(b) {
			t.Errorf("%x octet by octet: %08x", b, c)
		}
	}
	for _, c := range starts() {
		b := []byte("parted in two")
		for at := range len(b) + 1 {
			if got := crc.Extend(crc.Extend(c, b[:at]), b[at:]); got != crc.Extend(c, b) {
				t.Errorf("from %08x, parted at %d: %08x", c, at, got)
			}
		}
	}
}

// P2.4: sums of texts of one length are linear.
func TestSumIsLinear(t *testing.T) {
	chance := rand.New(rand.NewSource(3))
	for n := range 200 {
		x, y, z, all := make([]byte, n), make([]byte, n), make([]byte, n), make([]byte, n)
		chance.Read(x)
		chance.Read(y)
		chance.Read(z)
		for i := range all {
			all[i] = x[i] ^ y[i] ^ z[i]
		}
		if got, want := crc.Sum(all), crc.Sum(x)^crc.Sum(y)^crc.Sum(z); got != want {
			t.Errorf("x %x, y %x, z %x: %08x, want %08x", x, y, z, got, want)
		}
	}
}

// turn turns the bits of b that are set in mask, from bit at on; an octet's lowest bit is its first, as the register takes them.
func turn(b []byte, at int, mask uint32) []byte {
	out := bytes.Clone(b)
	for i := range 32 {
		if mask>>i&1 == 1 {
			out[(at+i)/8] ^= 1 << ((at + i) % 8)
		}
	}
	return out
}

// P2.5: Open tells up to 32 bits in a row that are turned, all of them or some, the seal's own too.
func TestOpenTellsTurnedBits(t *testing.T) {
	chance := rand.New(rand.NewSource(4))
	for _, b := range [][]byte{nil, {0}, []byte("123456789"), make([]byte, 32), bytes.Repeat([]byte{0xa5}, 61)} {
		sealed := crc.Seal(b)
		all := 8 * len(sealed)
		for long := 1; long <= 32; long++ {
			for at := 0; at+long <= all; at++ {
				row := uint32(math.MaxUint32) >> (32 - long)
				for _, mask := range []uint32{row, 1 | 1<<(long-1), row & (chance.Uint32() | 1)} {
					got, err := crc.Open(turn(sealed, at, mask))
					if err != api.ErrCorrupt || len(got) != 0 {
						t.Fatalf("%x, from bit %d, %08x turned: %x, %d", sealed, at, mask, got, err)
					}
				}
			}
		}
	}
}

// P2.5: so it is if the highest bit of an octet is called its first.
func TestOpenTellsTurnedBitsHighestFirst(t *testing.T) {
	sealed := crc.Seal([]byte("the highest bit first"))
	for long := 1; long <= 32; long++ {
		for at := 0; at+long <= 8*len(sealed); at++ {
			turned := bytes.Clone(sealed)
			for i := at; i < at+long; i++ {
				turned[i/8] ^= 0x80 >> (i % 8)
			}
			if got, err := crc.Open(turned); err != api.ErrCorrupt || len(got) != 0 {
				t.Fatalf("%d bits from bit %d: %x, %d", long, at, got, err)
			}
		}
	}
}

// P2.6: what is sealed has one sum.
func TestSumOfSealed(t *testing.T) {
	for _, b := range texts() {
		if got := crc.Sum(crc.Seal(b)); got != sealedSum {
			t.Errorf("Sum(Seal(%x)) = %08x", b, got)
		}
		if got := crc.Extend(crc.Sum(b), crc.Seal(b)[len(b):]); got != sealedSum {
			t.Errorf("the seal of %x behind it: %08x", b, got)
		}
	}
}

// P2.7 (P2): what is handed in is neither changed nor kept, nor what stands behind it.
func TestArgumentsStay(t *testing.T) {
	for _, text := range texts() {
		for _, b := range [][]byte{text, crc.Seal(text)} {
			room := append(bytes.Clone(b), 1, 2, 3, 4, 5)
			given := room[:len(b)]
			before := bytes.Clone(room)
			crc.Sum(given)
			crc.Extend(7, given)
			sealed := crc.Seal(given)
			opened, _ := crc.Open(given)
			if !bytes.Equal(room, before) {
				t.Errorf("%x was changed to %x", before, room)
			}
			wantSealed, wantOpened := bytes.Clone(sealed), bytes.Clone(opened)
			spoil(room)
			if !bytes.Equal(sealed, wantSealed) || !bytes.Equal(opened, wantOpened) {
				t.Errorf("an answer shares memory with %x", b)
			}
		}
	}
}

// P2.7 (P2): answers share no memory with each other nor with what is kept; P3: the same call answers the same.
func TestAnswersAreNew(t *testing.T) {
	for _, b := range texts() {
		first, second := crc.Seal(b), crc.Seal(b)
		want := bytes.Clone(second)
		opened, _ := crc.Open(second)
		spoil(first)
		if !bytes.Equal(second, want) || !bytes.Equal(crc.Seal(b), want) {
			t.Errorf("Seal(%x) shares its answers", b)
		}
		again, _ := crc.Open(second)
		spoil(opened)
		third, err := crc.Open(second)
		if !bytes.Equal(second, want) || !bytes.Equal(again, b) || !bytes.Equal(third, b) || err != api.OK {
			t.Errorf("Open(%x) shares its answers", want)
		}
	}
}

// spoil writes over all the memory that a list holds, used or not.
func spoil(b []byte) {
	b = b[:cap(b)]
	for i := range b {
		b[i] ^= 0xa5
	}
}

// P1: octets of any kind neither panic nor go on for ever.
func FuzzAnswers(f *testing.F) {
	f.Add(uint32(0), []byte(nil))
	f.Add(uint32(math.MaxUint32), []byte{})
	f.Add(uint32(1), []byte{0, 0, 0})
	f.Add(uint32(sealedSum), []byte{0, 0, 0, 0})
	f.Add(uint32(7), []byte("123456789\x26\x39\xf4\xcb"))
	f.Add(uint32(7), make([]byte, 1<<16))
	f.Fuzz(func(t *testing.T, c uint32, b []byte) {
		if got, want := crc.Extend(c, b), bitByBit(^c, b); got != want {
			t.Errorf("Extend(%08x, %x) = %08x, want %08x", c, b, got, want)
		}
		got, err := crc.Open(b)
		switch {
		case len(b) < 4 && err != api.ErrShort, len(b) >= 4 && (err == api.OK) != (crc.Sum(b) == sealedSum):
			t.Errorf("Open(%x): error %d", b, err)
		case err == api.OK && !bytes.Equal(crc.Seal(got), b), err != api.OK && len(got) != 0:
			t.Errorf("Open(%x) = %x, %d", b, got, err)
		}
		if got, err := crc.Open(crc.Seal(b)); err != api.OK || !bytes.Equal(got, b) {
			t.Errorf("Open(Seal(%x)) = %x, %d", b, got, err)
		}
	})
}
