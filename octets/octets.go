// Package octets is layer 1: whole numbers as octets, and octets as text. See shared/doc/01-octets.md.
package octets

import (
	"math/bits"

	"undercroft/api"
)

// maxSize is the most octets that Put lays a number in.
const maxSize = 64

// wordSize is how many octets hold any number.
const wordSize = 8

const hexDigits = "0123456789abcdef"

// Need tells the least number of octets that hold n.
func Need(n uint64) int {
	return (bits.Len64(n) + 7) / 8
}

// Put lays n in size octets, the highest first.
func Put(n uint64, size int) ([]byte, api.Errno) {
	if size < 0 || size > maxSize {
		return nil, api.ErrRange
	}
	if size < Need(n) {
		return nil, api.ErrBig
	}
	out := make([]byte, size)
	for i := size - 1; n > 0; i-- {
		out[i] = byte(n)
		n >>= 8
	}
	return out, api.OK
}

// Get reads the number that b holds, the highest octet first.
func Get(b []byte) (uint64, api.Errno) {
	b = withoutZeros(b)
	if len(b) > wordSize {
		return 0, api.ErrBig
	}
	var n uint64
	for _, octet := range b {
		n = n<<8 | uint64(octet)
	}
	return n, api.OK
}

// withoutZeros leaves out the zeros ahead: they do not count against a number's size.
func withoutZeros(b []byte) []byte {
	for len(b) > 0 && b[0] == 0 {
		b = b[1:]
	}
	return b
}

// Decimal writes n in decimal digits.
func Decimal(n int) string {
	// 20 places: the least int has 19 digits and a sign.
	var digits [20]byte
	at := len(digits)
	rest := magnitude(n)
	for {
		at--
		digits[at] = '0' + byte(rest%10)
		rest /= 10
		if rest == 0 {
			break
		}
	}
	if n < 0 {
		at--
		digits[at] = '-'
	}
	return string(digits[at:])
}

// magnitude is n without its sign; it is unsigned because the least int has no positive twin.
func magnitude(n int) uint64 {
	if n < 0 {
		return -uint64(n)
	}
	return uint64(n)
}

// Hex writes each octet of b as two digits.
func Hex(b []byte) string {
	out := make([]byte, 0, 2*len(b))
	for _, octet := range b {
		out = append(out, hexDigits[octet>>4], hexDigits[octet&15])
	}
	return string(out)
}

// Unhex reads the octets that Hex writes, with capital digits too.
func Unhex(s string) ([]byte, api.Errno) {
	out := make([]byte, 0, len(s)/2)
	var high byte
	for i, r := range s {
		value, ok := digitValue(r)
		if !ok {
			return nil, api.ErrDigit
		}
		// Every rune so far was a digit of one byte, so i counts digits.
		if i%2 == 0 {
			high = value << 4
		} else {
			out = append(out, high|value)
		}
	}
	// Asked last: a wrong digit anywhere goes ahead of an odd number of digits.
	if len(s)%2 != 0 {
		return nil, api.ErrShort
	}
	return out, api.OK
}

func digitValue(r rune) (byte, bool) {
	switch {
	case 'A' <= r && r <= 'F':
		r += 'a' - 'A'
		fallthrough
	case 'a' <= r && r <= 'f':
		return byte(r-'a') + 10, true
	case '0' <= r && r <= '9':
		return byte(r - '0'), true
	}
	return 0, false
}
