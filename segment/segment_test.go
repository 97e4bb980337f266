package segment_test

import (
	"bytes"
	"encoding/binary"
	"encoding/hex"
	"hash/crc32"
	"maps"
	"math"
	"math/rand"
	"slices"
	"strconv"
	"strings"
	"testing"

	"undercroft/api"
	"undercroft/segment"
)

// The faces keep the signatures of the chapter.
var (
	_ func(segment.Seg) api.Errno           = segment.Check
	_ func(segment.Seg) ([]byte, api.Errno) = segment.Seal
	_ func([]byte) (segment.Seg, api.Errno) = segment.Open
	_ func(segment.Seg) ([]int, api.Errno)  = segment.Owners
	_ struct {
		Owner, Index int
		Data         []byte
	} = segment.Block{}
	_ struct {
		Seq    int
		Blocks []segment.Block
	} = segment.Seg{}
)

const (
	highestSeq   = 1 << 40
	highestOwner = 1<<31 - 1
	highestIndex = 255
	mostBlocks   = 8
	longest      = 32
	whole        = 384
	ahead        = 380
	sector       = 64
	firstHead    = 13
	perHead      = 6
)

// text is n octets, none of them 0, unlike their neighbours and those of other seeds.
func text(seed, n int) []byte {
	b := make([]byte, n)
	for i := range b {
		b[i] = byte(1 + (seed*37+i*5)%255)
	}
	return b
}

// made is a segment of n blocks, each of so many octets.
func made(seq, n, size int) segment.Seg {
	s := segment.Seg{Seq: seq}
	for i := range n {
		s.Blocks = append(s.Blocks, segment.Block{Owner: 1 + (i*5+seq)%7, Index: (i * 40) % 256, Data: text(i+seq, size)})
	}
	return s
}

// of is a segment of these blocks.
func of(blocks ...segment.Block) segment.Seg {
	return segment.Seg{Seq: 3, Blocks: blocks}
}

func block(owner, index int, data string) segment.Block {
	return segment.Block{Owner: owner, Index: index, Data: []byte(data)}
}

// form is a segment's octets as the chapter lays them, by the library's own forms of numbers and sums.
func form(s segment.Seg) []byte {
	b := binary.BigEndian.AppendUint64([]byte("seg1"), uint64(s.Seq))
	b = append(b, byte(len(s.Blocks)))
	for _, one := range s.Blocks {
		b = binary.BigEndian.AppendUint32(b, uint32(one.Owner))
		b = append(b, byte(one.Index), byte(len(one.Data)))
	}
	for _, one := range s.Blocks {
		b = append(b, one.Data...)
	}
	return summed(append(b, make([]byte, ahead-len(b))...))
}

// summed is b and its sum, the highest octet first.
func summed(b []byte) []byte {
	return binary.BigEndian.AppendUint32(slices.Clone(b), crc32.ChecksumIEEE(b))
}

// resummed is sealed octets changed, with the sum that fits them.
func resummed(b []byte, change func(b []byte)) []byte {
	b = slices.Clone(b[:ahead])
	change(b)
	return summed(b)
}

func copied(s segment.Seg) segment.Seg {
	s.Blocks = slices.Clone(s.Blocks)
	for i := range s.Blocks {
		s.Blocks[i].Data = slices.Clone(s.Blocks[i].Data)
	}
	return s
}

// same takes nil and empty lists as one.
func same(a, b segment.Seg) bool {
	return a.Seq == b.Seq && slices.EqualFunc(a.Blocks, b.Blocks, func(x, y segment.Block) bool {
		return x.Owner == y.Owner && x.Index == y.Index && bytes.Equal(x.Data, y.Data)
	})
}

func isNone(s segment.Seg) bool {
	return s.Seq == 0 && len(s.Blocks) == 0
}

// rightSegs holds segments that may be, those at the edges among them.
func rightSegs() map[string]segment.Seg {
	all := map[string]segment.Seg{
		"the example":        {Seq: 1, Blocks: []segment.Block{{Owner: 1, Data: []byte("x")}}},
		"nil data":           of(segment.Block{Owner: 1}),
		"empty data":         of(block(1, 0, "")),
		"data of zeros":      of(segment.Block{Owner: 9, Index: 1, Data: make([]byte, longest)}),
		"zeros at the end":   of(block(1, 0, "a\x00\x00"), block(1, 1, "\x00")),
		"one block twice":    of(block(4, 4, "old"), block(4, 4, "new")),
		"owners fall":        of(block(highestOwner, 0, "a"), block(70000, 1, "b"), block(1, 2, "c")),
		"gone among others":  of(block(1, 0, "a"), block(1, 1, ""), block(1, 2, "c")),
		"eight without data": made(5, mostBlocks, 0),
		"all it takes":       {Seq: highestSeq, Blocks: slices.Repeat([]segment.Block{{Owner: highestOwner, Index: highestIndex, Data: bytes.Repeat([]byte{255}, longest)}}, mostBlocks)},
	}
	for n := 1; n <= mostBlocks; n++ {
		for _, size := range []int{0, 1, 31, longest} {
			all[strconv.Itoa(n)+" blocks of "+strconv.Itoa(size)] = made(n, n, size)
		}
	}
	for _, seq := range []int{1, 2, 255, 256, 0x0102030405, 1<<31 - 1, 1 << 31, 1<<32 + 1, highestSeq - 1, highestSeq} {
		all["seq "+strconv.Itoa(seq)] = segment.Seg{Seq: seq, Blocks: of(block(1, 0, "x")).Blocks}
	}
	for _, owner := range []int{1, 2, 255, 256, 65536, 0x01020304, 1 << 30, highestOwner - 1, highestOwner} {
		all["owner "+strconv.Itoa(owner)] = of(block(owner, 0, "x"))
	}
	for _, index := range []int{0, 1, 75, 76, 127, 128, highestIndex - 1, highestIndex} {
		all["index "+strconv.Itoa(index)] = of(block(1, index, "x"))
	}
	for size := range longest + 1 {
		all["size "+strconv.Itoa(size)] = of(segment.Block{Owner: 1, Data: text(size, size)})
	}
	return all
}

// wrongSegs holds segments that may not be, each for one cause.
func wrongSegs() map[string]segment.Seg {
	all := map[string]segment.Seg{
		"zero":         {},
		"no blocks":    {Seq: 1},
		"empty blocks": {Seq: 1, Blocks: []segment.Block{}},
		"9 blocks":     made(1, mostBlocks+1, 1),
		"256 blocks":   made(1, 256, 0),
		"257 blocks":   made(1, 257, 1),
		"264 blocks":   made(1, 264, 1),
		"zero block":   of(segment.Block{}),
	}
	for _, seq := range []int{0, -1, math.MinInt, math.MinInt + 1, -highestSeq, highestSeq + 1, 1<<41 + 1, 1 << 62, math.MaxInt} {
		s := made(1, 2, 3)
		s.Seq = seq
		all["seq "+strconv.Itoa(seq)] = s
	}
	for _, at := range []int{0, 3, mostBlocks - 1} {
		change := func(name string, f func(b *segment.Block)) {
			s := made(2, mostBlocks, 4)
			f(&s.Blocks[at])
			all[name+" at "+strconv.Itoa(at)] = s
		}
		for _, owner := range []int{0, -1, math.MinInt, highestOwner + 1, 1<<32 - 1, 1 << 32, 1<<32 + 1, 1 << 62, math.MaxInt} {
			change("owner "+strconv.Itoa(owner), func(b *segment.Block) { b.Owner = owner })
		}
		for _, index := range []int{-1, math.MinInt, highestIndex + 1, 257, 1 << 32, 1 << 40, math.MaxInt} {
			change("index "+strconv.Itoa(index), func(b *segment.Block) { b.Index = index })
		}
		for _, size := range []int{longest + 1, 255, 256, 257, 1 << 16} {
			change("size "+strconv.Itoa(size), func(b *segment.Block) { b.Data = text(1, size) })
		}
	}
	return all
}

// P13.1, P13.2: Check, and Seal and Owners by its error.
func TestCheck(t *testing.T) {
	for name, s := range rightSegs() {
		if err := segment.Check(s); err != api.OK {
			t.Errorf("%s: Check = %d", name, err)
		}
		if b, err := segment.Seal(s); err != api.OK || len(b) != whole {
			t.Errorf("%s: Seal = %d octets, %d", name, len(b), err)
		}
		if l, err := segment.Owners(s); err != api.OK || len(l) == 0 {
			t.Errorf("%s: Owners = %v, %d", name, l, err)
		}
	}
	for name, s := range wrongSegs() {
		if err := segment.Check(s); err != api.ErrState {
			t.Errorf("%s: Check = %d", name, err)
		}
		if b, err := segment.Seal(s); err != api.ErrState || len(b) != 0 {
			t.Errorf("%s: Seal = %d octets, %d", name, len(b), err)
		}
		if l, err := segment.Owners(s); err != api.ErrState || len(l) != 0 {
			t.Errorf("%s: Owners = %v, %d", name, l, err)
		}
	}
}

// P13.1: the octets of two segments, written out.
func TestSealOctets(t *testing.T) {
	three := segment.Seg{Seq: 0x0102030405, Blocks: []segment.Block{block(highestOwner, 255, "ab"), block(258, 7, ""), block(66051, 0, "c\x00d")}}
	for want, s := range map[string]segment.Seg{
		"73656731 0000000000000001 01 000000010001 78":                                    rightSegs()["the example"],
		"73656731 0000000102030405 03 7fffffffff02 000001020700 000102030003 6162 630064": three,
	} {
		lead, err := hex.DecodeString(strings.ReplaceAll(want, " ", ""))
		if err != nil {
			t.Fatal(err)
		}
		got, sealErr := segment.Seal(s)
		if sealErr != api.OK || len(got) != whole || !bytes.HasPrefix(got, lead) {
			t.Errorf("Seal(%v) = %x, %d, want %x", s, got, sealErr, lead)
			continue
		}
		if !bytes.Equal(got[len(lead):ahead], make([]byte, ahead-len(lead))) {
			t.Errorf("Seal(%v): not all zeros behind the data", s)
		}
		if sum := binary.BigEndian.Uint32(got[ahead:]); sum != crc32.ChecksumIEEE(got[:ahead]) {
			t.Errorf("Seal(%v): the sum is %x", s, sum)
		}
	}
}

// P13.1, P13.3: each segment has one form, by which it is sealed and opened.
func TestForms(t *testing.T) {
	for name, s := range rightSegs() {
		hold(t, name, s)
	}
	chance := rand.New(rand.NewSource(13))
	for i := range 2000 {
		hold(t, "by chance "+strconv.Itoa(i), anySeg(chance))
	}
}

// hold tells whether s is sealed as the chapter lays it, and opened from that.
func hold(t *testing.T, name string, s segment.Seg) {
	t.Helper()
	want := form(s)
	if got, err := segment.Seal(s); err != api.OK || !bytes.Equal(got, want) {
		t.Errorf("%s: Seal = %x, %d, want %x", name, got, err, want)
	}
	if got, err := segment.Open(want); err != api.OK || !same(got, s) {
		t.Errorf("%s: Open = %v, %d, want %v", name, got, err, s)
	}
}

// anySeg is a segment that may be.
func anySeg(chance *rand.Rand) segment.Seg {
	s := segment.Seg{Seq: 1 + chance.Intn(highestSeq)>>chance.Intn(40)}
	for range 1 + chance.Intn(mostBlocks) {
		data := make([]byte, chance.Intn(longest+1))
		chance.Read(data)
		s.Blocks = append(s.Blocks, segment.Block{Owner: 1 + chance.Intn(highestOwner)>>chance.Intn(31), Index: chance.Intn(256), Data: data})
	}
	return s
}

// P13.2: the owners rise, each once.
func TestOwners(t *testing.T) {
	for name, s := range rightSegs() {
		seen := map[int]bool{}
		for _, b := range s.Blocks {
			seen[b.Owner] = true
		}
		want := slices.Sorted(maps.Keys(seen))
		if got, err := segment.Owners(s); err != api.OK || !slices.Equal(got, want) {
			t.Errorf("%s: Owners = %v, %d, want %v", name, got, err, want)
		}
	}
	for _, c := range []struct{ owners, want []int }{
		{[]int{5}, []int{5}},
		{[]int{5, 5}, []int{5}},
		{[]int{2, 1}, []int{1, 2}},
		{[]int{3, 1, 3, 2, 1, 3}, []int{1, 2, 3}},
		{[]int{10, 9, 100, 1}, []int{1, 9, 10, 100}},
		{[]int{8, 7, 6, 5, 4, 3, 2, 1}, []int{1, 2, 3, 4, 5, 6, 7, 8}},
		{[]int{7, 7, 7, 7, 7, 7, 7, 7}, []int{7}},
		{[]int{highestOwner, 1, highestOwner, 256, 255}, []int{1, 255, 256, highestOwner}},
	} {
		s := segment.Seg{Seq: 1}
		for i, owner := range c.owners {
			// A block without data is its owner's as well.
			s.Blocks = append(s.Blocks, segment.Block{Owner: owner, Index: i, Data: text(i, i%3)})
		}
		if got, err := segment.Owners(s); err != api.OK || !slices.Equal(got, c.want) {
			t.Errorf("Owners of %v = %v, %d", c.owners, got, err)
		}
	}
}
