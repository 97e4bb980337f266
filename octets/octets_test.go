package octets_test

import (
	"bytes"
	"math"
	"math/rand"
	"strconv"
	"strings"
	"testing"

	"undercroft/api"
	"undercroft/octets"
)

// The faces keep the signatures of the chapter.
var (
	_ func(uint64) int                      = octets.Need
	_ func(uint64, int) ([]byte, api.Errno) = octets.Put
	_ func([]byte) (uint64, api.Errno)      = octets.Get
	_ func(int) string                      = octets.Decimal
	_ func([]byte) string                   = octets.Hex
	_ func(string) ([]byte, api.Errno)      = octets.Unhex
)

// numbers holds both sides of each place where a number needs one octet more, and some in between.
func numbers() []uint64 {
	list := []uint64{0, 1, 2, 258, math.MaxUint64 - 1, math.MaxUint64}
	for shift := range 64 {
		n := uint64(1) << shift
		list = append(list, n-1, n, n+1)
	}
	chance := rand.New(rand.NewSource(1))
	for range 500 {
		list = append(list, chance.Uint64()>>chance.Intn(64))
	}
	return list
}

// octetLists holds lists of each length up to 70, and one of all octets.
func octetLists() [][]byte {
	all := make([]byte, 256)
	for i := range all {
		all[i] = byte(i)
	}
	list := [][]byte{nil, {}, {0}, {255}, all}
	chance := rand.New(rand.NewSource(2))
	for n := range 70 {
		b := make([]byte, n)
		chance.Read(b)
		list = append(list, b)
	}
	return list
}

// P1.1: Need.
func TestNeed(t *testing.T) {
	for _, c := range []struct {
		n    uint64
		want int
	}{
		{0, 0}, {1, 1}, {127, 1}, {128, 1}, {255, 1}, {256, 2}, {258, 2}, {65535, 2}, {65536, 3},
		{1<<24 - 1, 3}, {1 << 24, 4}, {1<<32 - 1, 4}, {1 << 32, 5}, {1<<40 - 1, 5}, {1 << 40, 6},
		{1<<48 - 1, 6}, {1 << 48, 7}, {1<<56 - 1, 7}, {1 << 56, 8}, {1 << 63, 8}, {math.MaxUint64, 8},
	} {
		if got := octets.Need(c.n); got != c.want {
			t.Errorf("Need(%d) = %d, want %d", c.n, got, c.want)
		}
	}
}

// P1.1: Put.
func TestPut(t *testing.T) {
	for _, c := range []struct {
		n    uint64
		size int
		want string
	}{
		{258, 3, "\x00\x01\x02"},
		{258, 2, "\x01\x02"},
		{0, 0, ""},
		{0, 1, "\x00"},
		{0, 64, strings.Repeat("\x00", 64)},
		{1, 1, "\x01"},
		{255, 1, "\xff"},
		{256, 2, "\x01\x00"},
		{0x0102030405060708, 8, "\x01\x02\x03\x04\x05\x06\x07\x08"},
		{math.MaxUint64, 8, strings.Repeat("\xff", 8)},
		{math.MaxUint64, 9, "\x00" + strings.Repeat("\xff", 8)},
		{math.MaxUint64, 64, strings.Repeat("\x00", 56) + strings.Repeat("\xff", 8)},
	} {
		got, err := octets.Put(c.n, c.size)
		if err != api.OK || string(got) != c.want {
			t.Errorf("Put(%d, %d) = %x, %d, want %x", c.n, c.size, got, err, c.want)
		}
	}
}

// P1.1: Put's errors, ErrRange ahead of ErrBig.
func TestPutErrors(t *testing.T) {
	for _, c := range []struct {
		n    uint64
		size int
		want api.Errno
	}{
		{0, -1, api.ErrRange},
		{0, 65, api.ErrRange},
		{1, -1, api.ErrRange},
		{math.MaxUint64, -1, api.ErrRange},
		{math.MaxUint64, 65, api.ErrRange},
		{1, math.MinInt, api.ErrRange},
		{1, math.MaxInt, api.ErrRange},
		{0, 1 << 32, api.ErrRange},
		{1, 0, api.ErrBig},
		{256, 1, api.ErrBig},
		{65536, 2, api.ErrBig},
		{1 << 56, 7, api.ErrBig},
		{math.MaxUint64, 0, api.ErrBig},
		{math.MaxUint64, 7, api.ErrBig},
	} {
		got, err := octets.Put(c.n, c.size)
		if err != c.want || len(got) != 0 {
			t.Errorf("Put(%d, %d) = %x, %d, want error %d", c.n, c.size, got, err, c.want)
		}
	}
}

// P1.1: Get.
func TestGet(t *testing.T) {
	for _, c := range []struct {
		b    string
		want uint64
		err  api.Errno
	}{
		{"", 0, api.OK},
		{"\x00", 0, api.OK},
		{strings.Repeat("\x00", 1000), 0, api.OK},
		{"\x01", 1, api.OK},
		{"\x00\x01\x02", 258, api.OK},
		{"\x01\x00", 256, api.OK},
		{"\x01\x02\x03\x04\x05\x06\x07\x08", 0x0102030405060708, api.OK},
		{"\x01" + strings.Repeat("\x00", 7), 1 << 56, api.OK},
		{strings.Repeat("\xff", 8), math.MaxUint64, api.OK},
		{"\x00" + strings.Repeat("\xff", 8), math.MaxUint64, api.OK},
		{strings.Repeat("\x00", 1000) + strings.Repeat("\xff", 8), math.MaxUint64, api.OK},
		{"\x01" + strings.Repeat("\x00", 8), 0, api.ErrBig},
		{"\x00\x01" + strings.Repeat("\x00", 8), 0, api.ErrBig},
		{strings.Repeat("\xff", 9), 0, api.ErrBig},
		{strings.Repeat("\x00", 64) + strings.Repeat("\xff", 9), 0, api.ErrBig},
		{strings.Repeat("\x01", 1000), 0, api.ErrBig},
	} {
		if got, err := octets.Get([]byte(c.b)); got != c.want || err != c.err {
			t.Errorf("Get(%x) = %d, %d, want %d, %d", c.b, got, err, c.want, c.err)
		}
	}
	if got, err := octets.Get(nil); got != 0 || err != api.OK {
		t.Errorf("Get(nil) = %d, %d", got, err)
	}
}

// P1.2: Decimal.
func TestDecimal(t *testing.T) {
	for _, c := range []struct {
		n    int
		want string
	}{
		{0, "0"}, {1, "1"}, {-1, "-1"}, {-7, "-7"}, {9, "9"}, {10, "10"}, {-10, "-10"}, {99, "99"}, {100, "100"},
		{1002003, "1002003"}, {math.MaxInt64, "9223372036854775807"}, {-math.MaxInt64, "-9223372036854775807"},
		{math.MinInt64, "-9223372036854775808"},
	} {
		if got := octets.Decimal(c.n); got != c.want {
			t.Errorf("Decimal(%d) = %q, want %q", c.n, got, c.want)
		}
	}
	for _, n := range numbers() {
		for _, i := range []int{int(n), -int(n)} {
			if got, want := octets.Decimal(i), strconv.Itoa(i); got != want {
				t.Errorf("Decimal(%d) = %q", i, got)
			}
		}
	}
}

// P1.3: Hex.
func TestHex(t *testing.T) {
	for _, c := range []struct{ b, want string }{
		{"", ""},
		{"\x00", "00"},
		{"\x0a", "0a"},
		{"\xa0", "a0"},
		{"\xaf\x01", "af01"},
		{"\x01\x23\x45\x67\x89\xab\xcd\xef", "0123456789abcdef"},
		{"\xff\x00", "ff00"},
	} {
		if got := octets.Hex([]byte(c.b)); got != c.want {
			t.Errorf("Hex(%x) = %q, want %q", c.b, got, c.want)
		}
	}
	if got := octets.Hex(nil); got != "" {
		t.Errorf("Hex(nil) = %q", got)
	}
}

// P1.3: Unhex.
func TestUnhex(t *testing.T) {
	for _, c := range []struct{ s, want string }{
		{"", ""},
		{"00", "\x00"},
		{"0aF1", "\x0a\xf1"},
		{"aF01", "\xaf\x01"},
		{"0123456789abcdef", "\x01\x23\x45\x67\x89\xab\xcd\xef"},
		{"ABCDEF", "\xab\xcd\xef"},
		{"aAbBcCdDeEfF", "\xaa\xbb\xcc\xdd\xee\xff"},
	} {
		if got, err := octets.Unhex(c.s); err != api.OK || string(got) != c.want {
			t.Errorf("Unhex(%q) = %x, %d, want %x", c.s, got, err, c.want)
		}
	}
}

// P1.3: Unhex's errors, ErrDigit ahead of ErrShort wherever the wrong byte stands.
func TestUnhexErrors(t *testing.T) {
	for _, c := range []struct {
		s    string
		want api.Errno
	}{
		{"0", api.ErrShort},
		{"F", api.ErrShort},
		{"0aF", api.ErrShort},
		{"01234", api.ErrShort},
		{"g", api.ErrDigit},
		{"0g", api.ErrDigit},
		{"g0", api.ErrDigit},
		{"0ag", api.ErrDigit},
		{"ag0", api.ErrDigit},
		{"0aFx0", api.ErrDigit},
		{"0x", api.ErrDigit},
		{" 00", api.ErrDigit},
		{"00\n", api.ErrDigit},
		{"-1", api.ErrDigit},
		{"\x00\x00", api.ErrDigit},
		{"\xff\xff", api.ErrDigit},
		{"\xc3", api.ErrDigit},
		{"\u00e9", api.ErrDigit},
		{"0\u00e9", api.ErrDigit},
		// Runes whose lowest octet is that of a digit.
		{"\u0130\u0130", api.ErrDigit},
		{"\u0161\u0161", api.ErrDigit},
		{"\U00010041", api.ErrDigit},
		// Digits of other scripts, and of full width.
		{"\u0660\u0661", api.ErrDigit},
		{"\uff10\uff21", api.ErrDigit},
	} {
		if got, err := octets.Unhex(c.s); err != c.want || len(got) != 0 {
			t.Errorf("Unhex(%q) = %x, %d, want error %d", c.s, got, err, c.want)
		}
	}
}

// P1.3: of all bytes just the 22 digits are taken, ahead or behind.
func TestUnhexEachByte(t *testing.T) {
	for i := range 256 {
		c := string([]byte{byte(i)})
		want := api.OK
		if !strings.Contains("0123456789abcdefABCDEF", c) {
			want = api.ErrDigit
		}
		for _, s := range []string{c + "0", "0" + c} {
			if _, err := octets.Unhex(s); err != want {
				t.Errorf("Unhex(%q): error %d, want %d", s, err, want)
			}
		}
	}
}

// P1.4: Get of Put is the number, in every size that holds it; a size that does not is refused.
func TestGetOfPut(t *testing.T) {
	for _, n := range numbers() {
		for size := 0; size <= 64; size++ {
			b, err := octets.Put(n, size)
			if size < octets.Need(n) {
				if err != api.ErrBig || len(b) != 0 {
					t.Fatalf("Put(%d, %d) = %x, %d", n, size, b, err)
				}
				continue
			}
			if err != api.OK || len(b) != size {
				t.Fatalf("Put(%d, %d) = %x, %d", n, size, b, err)
			}
			if got, err := octets.Get(b); got != n || err != api.OK {
				t.Fatalf("Get(%x) = %d, %d, want %d", b, got, err, n)
			}
		}
	}
}

// P1.4: Unhex of Hex is the octets, in small and in capital digits.
func TestUnhexOfHex(t *testing.T) {
	for _, b := range octetLists() {
		s := octets.Hex(b)
		if len(s) != 2*len(b) {
			t.Errorf("Hex(%x) = %q", b, s)
		}
		for _, digits := range []string{s, strings.ToUpper(s)} {
			if got, err := octets.Unhex(digits); err != api.OK || !bytes.Equal(got, b) {
				t.Errorf("Unhex(%q) = %x, %d, want %x", digits, got, err, b)
			}
		}
	}
}

// P1.5: of two numbers put in as many octets the lesser one's come first (P5: the highest octet first).
func TestPutKeepsOrder(t *testing.T) {
	list := numbers()
	for _, size := range []int{8, 9, 64} {
		put := make([][]byte, len(list))
		for i, n := range list {
			put[i], _ = octets.Put(n, size)
		}
		for i, n := range list {
			for j, m := range list {
				if (n < m) != (bytes.Compare(put[i], put[j]) < 0) {
					t.Fatalf("%d and %d in %d octets: %x, %x", n, m, size, put[i], put[j])
				}
			}
		}
	}
}

// P1.6 (P2): what is handed in is neither changed nor kept.
func TestArgumentsStay(t *testing.T) {
	for _, b := range octetLists() {
		given := bytes.Clone(b)
		octets.Get(given)
		text := octets.Hex(given)
		if !bytes.Equal(given, b) {
			t.Errorf("%x was changed to %x", b, given)
		}
		before := strings.Clone(text)
		for i := range given {
			given[i]++
		}
		if text != before {
			t.Errorf("Hex(%x) hangs on its argument afterwards", b)
		}
	}
	spare := []byte{0, 0, 1, 2, 77}
	octets.Get(spare[:4])
	octets.Hex(spare[:4])
	if !bytes.Equal(spare, []byte{0, 0, 1, 2, 77}) {
		t.Errorf("the octets behind an argument were changed: %x", spare)
	}
}

// P1.6 (P2): two answers share no memory.
func TestAnswersAreNew(t *testing.T) {
	for _, n := range []uint64{0, 1, 258, math.MaxUint64} {
		for _, size := range []int{8, 9, 64} {
			first, _ := octets.Put(n, size)
			second, _ := octets.Put(n, size)
			want := bytes.Clone(second)
			spoil(first)
			if third, _ := octets.Put(n, size); !bytes.Equal(second, want) || !bytes.Equal(third, want) {
				t.Errorf("Put(%d, %d) shares its answers", n, size)
			}
		}
	}
	for _, b := range octetLists() {
		s := octets.Hex(b)
		first, _ := octets.Unhex(s)
		second, _ := octets.Unhex(s)
		spoil(first)
		if third, _ := octets.Unhex(s); !bytes.Equal(second, b) || !bytes.Equal(third, b) || octets.Hex(b) != s {
			t.Errorf("Unhex(%q) shares its answers", s)
		}
	}
}

// spoil writes over all the memory that a list holds, used or not.
func spoil(b []byte) {
	b = b[:cap(b)]
	for i := range b {
		b[i] ^= 0xa5
	}
}

// P1: nil and empty lists are one; wrong inputs of any kind neither panic nor go on for ever.
func FuzzAnswers(f *testing.F) {
	f.Add([]byte(nil), uint64(0), 0, 0)
	f.Add([]byte{}, uint64(math.MaxUint64), math.MinInt, math.MinInt)
	f.Add([]byte("0aF"), uint64(258), math.MaxInt, -7)
	f.Add([]byte("\xff\xfe0"), uint64(1)<<63, 64, math.MaxInt)
	f.Add(make([]byte, 1<<16), uint64(1), 65, 1)
	f.Fuzz(func(t *testing.T, b []byte, n uint64, size int, i int) {
		put, err := octets.Put(n, size)
		if again, errAgain := octets.Put(n, size); err != errAgain || !bytes.Equal(put, again) {
			t.Errorf("P3: Put(%d, %d) answers two things", n, size)
		}
		if err == api.OK != (size >= octets.Need(n) && size <= 64) {
			t.Errorf("Put(%d, %d): error %d", n, size, err)
		}
		if got, err := octets.Get(b); err == api.OK && octets.Need(got) > len(b) || err != api.OK && got != 0 {
			t.Errorf("Get(%x) = %d, %d", b, got, err)
		}
		if got, err := strconv.Atoi(octets.Decimal(i)); err != nil || got != i {
			t.Errorf("Decimal(%d) = %q", i, octets.Decimal(i))
		}
		if got, err := octets.Unhex(octets.Hex(b)); err != api.OK || !bytes.Equal(got, b) {
			t.Errorf("Unhex of Hex of %x = %x, %d", b, got, err)
		}
		if got, err := octets.Unhex(string(b)); err == api.OK && !strings.EqualFold(octets.Hex(got), string(b)) || err != api.OK && len(got) != 0 {
			t.Errorf("Unhex(%q) = %x, %d", b, got, err)
		}
	})
}
