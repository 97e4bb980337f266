package client_test

import (
	"bytes"
	"encoding/binary"
	"encoding/hex"
	"hash/crc32"
	"math"
	"math/rand"
	"slices"
	"strconv"
	"strings"
	"testing"

	"undercroft/api"
	"undercroft/client"
	"undercroft/wire"
)

// The faces keep the signatures of the chapter.
var (
	_ func(client.Request) ([]byte, api.Errno)                         = client.Encode
	_ func([]byte) (client.Request, api.Errno)                         = client.Decode
	_ func([]client.Last) api.Errno                                    = client.Check
	_ func([]client.Last, int, int) (int, []byte, api.Errno)           = client.Ask
	_ func([]client.Last, int, int, []byte) ([]client.Last, api.Errno) = client.Done
	_ struct {
		Session, Number int
		Op              []byte
	} = client.Request{}
	_ struct {
		Session, Number int
		Reply           []byte
	} = client.Last{}
)

// The document's numbers.
const (
	topSession   = 2147483647
	topNumber    = 1099511627776
	longestOp    = 200
	longestReply = 4096
	mostSessions = 64
)

// text is n octets, unlike their neighbours and those of other seeds.
func text(seed, n int) []byte {
	b := make([]byte, n)
	for i := range b {
		b[i] = byte(seed*37 + i*5)
	}
	return b
}

// record is a record's octets as chapter 5 lays them, by the library's own forms of numbers and sums.
func record(kind byte, nums []int, texts ...[]byte) []byte {
	b := []byte{kind, byte(len(nums))}
	for _, n := range nums {
		b = binary.AppendVarint(b, int64(n))
	}
	b = append(b, byte(len(texts)))
	for _, one := range texts {
		b = binary.AppendUvarint(b, uint64(len(one)))
		b = append(b, one...)
	}
	return summed(b)
}

// summed is b and its sum, the lowest octet first.
func summed(b []byte) []byte {
	return binary.LittleEndian.AppendUint32(slices.Clone(b), crc32.ChecksumIEEE(b))
}

// form is a request's octets as the chapter lays them.
func form(r client.Request) []byte {
	return record(8, []int{r.Session, r.Number}, r.Op)
}

// same takes nil and empty lists as one.
func same(a, b client.Request) bool {
	return a.Session == b.Session && a.Number == b.Number && bytes.Equal(a.Op, b.Op)
}

func isNone(r client.Request) bool {
	return same(r, client.Request{})
}

// rightRequests holds requests that may be, those at the edges among them.
func rightRequests() map[string]client.Request {
	return map[string]client.Request{
		"the lowest":                   {Session: 1, Number: 1},
		"the highest session":          {Session: topSession, Number: 1},
		"the highest number":           {Session: 1, Number: topNumber},
		"the highest":                  {topSession, topNumber, bytes.Repeat([]byte{255}, longestOp)},
		"below the highest":            {topSession - 1, topNumber - 1, text(3, longestOp-1)},
		"a number beyond all sessions": {Session: 2, Number: topSession + 1},
		"each its own":                 {2, 3, []byte("op")},
		"one octet":                    {63, 64, []byte{0}},
		"two groups":                   {64, 8192, text(1, 127)},
		"a text of two groups":         {8191, 8192, text(2, 128)},
	}
}

// wrongRequest is a request that may not be, and what it is refused for.
type wrongRequest struct {
	r    client.Request
	want api.Errno
}

// wrongSessions and wrongNumbers are out of their ranges.
func wrongSessions() []int {
	return []int{math.MinInt, -topSession, -1, 0, topSession + 1, topSession + 2, 1 << 32, 1<<32 + 1, topNumber, 1 << 62, math.MaxInt}
}

func wrongNumbers() []int {
	return []int{math.MinInt, -topNumber, -1, 0, topNumber + 1, topNumber + 2, 1 << 41, 1 << 62, math.MaxInt}
}

// wrongRequests holds each number out of its range, ops that are too long, and both.
func wrongRequests() []wrongRequest {
	var list []wrongRequest
	for _, size := range []int{0, 5, longestOp, longestOp + 1, 5000} {
		for _, session := range wrongSessions() {
			list = append(list, wrongRequest{client.Request{session, 5, text(1, size)}, api.ErrRange})
			list = append(list, wrongRequest{client.Request{session, -5, text(1, size)}, api.ErrRange})
		}
		for _, number := range wrongNumbers() {
			list = append(list, wrongRequest{client.Request{5, number, text(1, size)}, api.ErrRange})
		}
	}
	for _, size := range []int{201, 202, 255, 256, 4095, 4096, 4097, 65536, 100000} {
		list = append(list, wrongRequest{client.Request{1, 1, text(1, size)}, api.ErrLong})
		list = append(list, wrongRequest{client.Request{topSession, topNumber, make([]byte, size)}, api.ErrLong})
	}
	return list
}

// P20.1: what may be, its octets, and Decode of them.
func TestRight(t *testing.T) {
	for name, r := range rightRequests() {
		b, err := client.Encode(r)
		if err != api.OK || !bytes.Equal(b, form(r)) {
			t.Errorf("%s: Encode = %x, %d, want %x", name, b, err, form(r))
		}
		if got, err := client.Decode(form(r)); err != api.OK || !same(got, r) {
			t.Errorf("%s: Decode = %v, %d, want %v", name, got, err, r)
		}
	}
	for size := range longestOp + 1 {
		r := client.Request{1 + size, 1 + 7*size, text(size, size)}
		b, err := client.Encode(r)
		got, gotErr := client.Decode(b)
		if err != api.OK || gotErr != api.OK || !bytes.Equal(b, form(r)) || !same(got, r) {
			t.Errorf("an op of %d octets: %d, %d", size, err, gotErr)
		}
	}
}

// P20.1: a number's fault goes ahead of that of the op; Decode tells both as Encode does.
func TestWrong(t *testing.T) {
	for _, c := range wrongRequests() {
		name := strconv.Itoa(c.r.Session) + ", " + strconv.Itoa(c.r.Number) + ", " + strconv.Itoa(len(c.r.Op))
		if b, err := client.Encode(c.r); err != c.want || len(b) > 0 {
			t.Errorf("Encode(%s) = %x, %d, want %d", name, b, err, c.want)
		}
		if len(c.r.Op) <= 4096 {
			refuses(t, name, form(c.r), c.want)
		}
	}
}

// P20.1: some octets worked out by hand, but for their sum: 8, two numbers doubled, one text.
func TestForm(t *testing.T) {
	for want, r := range map[string]client.Request{
		"08 02 02 02 01 00":            {Session: 1, Number: 1},
		"08 02 02 0a 01 01 6f":         {1, 5, []byte("o")},
		"08 02 8001 fe03 01 03 616263": {64, 255, []byte("abc")},
		"08 02 feffffff0f 808080808040 01 c801 " + strings.Repeat("5a", 200): {topSession, topNumber, bytes.Repeat([]byte{0x5a}, 200)},
	} {
		octets, err := hex.DecodeString(strings.ReplaceAll(want, " ", ""))
		if err != nil {
			t.Fatal(err)
		}
		octets = summed(octets)
		if b, err := client.Encode(r); err != api.OK || !bytes.Equal(b, octets) {
			t.Errorf("Encode(%v) = %x, %d, want %x", r, b, err, octets)
		}
		if got, err := client.Decode(octets); err != api.OK || !same(got, r) {
			t.Errorf("Decode(%x) = %v, %d, want %v", octets, got, err, r)
		}
	}
}

// refuses tells whether Decode answers that error, and nothing beside it.
func refuses(t *testing.T, name string, b []byte, want api.Errno) {
	t.Helper()
	if r, err := client.Decode(b); err != want || !isNone(r) {
		t.Errorf("%s: Decode = %v, %d, want %d", name, r, err, want)
	}
}

// P20.1: octets that are no record, whatever their kind.
func TestDecodeNoRecord(t *testing.T) {
	refuses(t, "nil", nil, api.ErrShort)
	refuses(t, "empty", []byte{}, api.ErrShort)
	refuses(t, "a sum alone", summed(nil), api.ErrShort)
	refuses(t, "a sum that does not fit", make([]byte, 5), api.ErrCorrupt)
	for _, kind := range []byte{0, 7, 8, 9, 255} {
		name := "kind " + strconv.Itoa(int(kind)) + ", "
		fits := record(kind, []int{1, 2}, []byte("abc"))
		head := fits[:len(fits)-4]
		for n := range 4 {
			refuses(t, name+"no sum", head[:n], api.ErrShort)
		}
		for n := range head {
			refuses(t, name+"cut at "+strconv.Itoa(n), summed(head[:n]), api.ErrShort)
		}
		for bit := range 8 * len(fits) {
			spoilt := slices.Clone(fits)
			spoilt[bit/8] ^= 1 << (bit % 8)
			refuses(t, name+"bit "+strconv.Itoa(bit), spoilt, api.ErrCorrupt)
		}
		refuses(t, name+"something behind it", summed(append(slices.Clone(head), 0)), api.ErrTail)
		refuses(t, name+"a number of two groups that needs one", summed([]byte{kind, 2, 0x82, 0, 2, 1, 0}), api.ErrRange)
		refuses(t, name+"65 numbers", summed(append([]byte{kind, 65}, make([]byte, 66)...)), api.ErrCount)
		refuses(t, name+"65 texts", summed(append([]byte{kind, 0, 65}, make([]byte, 65)...)), api.ErrCount)
		refuses(t, name+"a text that is too long", summed([]byte{kind, 2, 2, 2, 1, 0x81, 0x20}), api.ErrLong)
	}
}

// P20.1: records that are no request's, with faults that would be told behind that, too.
func TestDecodeOtherRecord(t *testing.T) {
	right, wrong := []int{1, 2}, []int{0, topNumber + 1}
	op, long := []byte("abc"), text(1, longestOp+1)
	for kind := range 256 {
		if kind == 8 {
			continue
		}
		name, kind := "kind "+strconv.Itoa(kind), byte(kind)
		refuses(t, name, record(kind, right, op), api.ErrKind)
		refuses(t, name+", nothing in it", record(kind, nil), api.ErrKind)
		refuses(t, name+", three numbers", record(kind, []int{1, 2, 3}, op), api.ErrKind)
		refuses(t, name+", numbers", record(kind, wrong, op), api.ErrKind)
		refuses(t, name+", long", record(kind, right, long), api.ErrKind)
	}
	for _, n := range []int{0, 1, 3, 4, 64} {
		for _, one := range []int{0, 1, -1, math.MinInt} {
			name, numbers := strconv.Itoa(n)+" numbers of "+strconv.Itoa(one), slices.Repeat([]int{one}, n)
			refuses(t, name, record(8, numbers, op), api.ErrCount)
			refuses(t, name+", no text", record(8, numbers), api.ErrCount)
			refuses(t, name+", two texts", record(8, numbers, op, op), api.ErrCount)
			refuses(t, name+", long", record(8, numbers, long), api.ErrCount)
		}
	}
	for _, n := range []int{0, 2, 3, 64} {
		name, texts := strconv.Itoa(n)+" texts", make([][]byte, n)
		refuses(t, name, record(8, right, texts...), api.ErrCount)
		refuses(t, name+", numbers", record(8, wrong, texts...), api.ErrCount)
	}
	refuses(t, "two texts, one long", record(8, right, long, op), api.ErrCount)
}

// decoded is what Decode answers, by a plain reading of the chapter.
func decoded(b []byte) (client.Request, api.Errno) {
	r, err := wire.Decode(b)
	switch {
	case err != api.OK:
		return client.Request{}, err
	case r.Kind != 8:
		return client.Request{}, api.ErrKind
	case len(r.Nums) != 2 || len(r.Texts) != 1:
		return client.Request{}, api.ErrCount
	case r.Nums[0] < 1 || r.Nums[0] > topSession || r.Nums[1] < 1 || r.Nums[1] > topNumber:
		return client.Request{}, api.ErrRange
	case len(r.Texts[0]) > longestOp:
		return client.Request{}, api.ErrLong
	}
	return client.Request{Session: r.Nums[0], Number: r.Nums[1], Op: r.Texts[0]}, api.OK
}

// spoilt is octets like those of a request, with some of them changed, and mostly a sum that fits.
func spoilt(chance *rand.Rand) []byte {
	numbers := make([]int, []int{2, 2, 2, 2, 2, 2, 1, 3}[chance.Intn(8)])
	for i := range numbers {
		numbers[i] = 1 + chance.Intn(1<<chance.Intn(41))
		if i == 0 {
			numbers[i] = 1 + chance.Intn(1<<chance.Intn(31))
		}
		if chance.Intn(20) == 0 {
			numbers[i] = []int{0, -1, topSession, topSession + 1, topNumber, topNumber + 1}[chance.Intn(6)]
		}
	}
	texts := make([][]byte, []int{1, 1, 1, 1, 1, 1, 0, 2}[chance.Intn(8)])
	for i := range texts {
		texts[i] = text(chance.Intn(99), []int{0, 3, 130, 199, 200, 201}[chance.Intn(6)])
	}
	b := record([]byte{8, 8, 8, 8, 8, 8, 7, 9}[chance.Intn(8)], numbers, texts...)
	for range chance.Intn(2) * chance.Intn(3) {
		b[chance.Intn(min(len(b), 20))] = []byte{0, 1, 2, 8, 64, 65, 127, 128, 255, byte(chance.Intn(256))}[chance.Intn(10)]
	}
	if chance.Intn(8) > 0 {
		b = summed(b[:len(b)-4])
	}
	return b
}

// P20.1: spoilt octets are decoded as the chapter says; what Decode takes is Encode of it.
func TestDecodeByChance(t *testing.T) {
	chance := rand.New(rand.NewSource(201))
	met := map[api.Errno]int{}
	for range 60000 {
		b := spoilt(chance)
		want, wantErr := decoded(b)
		got, err := client.Decode(b)
		if err != wantErr || !same(got, want) {
			t.Fatalf("Decode(%x) = %v, %d, want %v, %d", b, got, err, want, wantErr)
		}
		met[err]++
		if err != api.OK {
			continue
		}
		if again, err := client.Encode(got); err != api.OK || !bytes.Equal(again, b) {
			t.Fatalf("Encode of Decode(%x) = %x, %d", b, again, err)
		}
	}
	for _, err := range []api.Errno{api.OK, api.ErrCorrupt, api.ErrShort, api.ErrTail, api.ErrRange, api.ErrCount, api.ErrLong, api.ErrKind} {
		if met[err] < 100 {
			t.Errorf("error %d was met only %d times", err, met[err])
		}
	}
}
