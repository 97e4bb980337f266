package segment_test

import (
	"bytes"
	"encoding/binary"
	"hash/crc32"
	"math/rand"
	"slices"
	"strconv"
	"testing"

	"undercroft/api"
	"undercroft/segment"
)

// refuses tells whether Open answers that error, and nothing beside it.
func refuses(t *testing.T, name string, b []byte, want api.Errno) {
	t.Helper()
	if s, err := segment.Open(b); err != want || !isNone(s) {
		t.Errorf("%s: Open = %v, %d, want %d", name, s, err, want)
	}
}

// P13.1: not 384 octets, whatever else is wrong or right with them.
func TestOpenCount(t *testing.T) {
	b := form(made(7, 3, 9))
	refuses(t, "nil", nil, api.ErrCount)
	refuses(t, "empty", []byte{}, api.ErrCount)
	for n := range whole {
		refuses(t, strconv.Itoa(n)+" octets", b[:n], api.ErrCount)
		refuses(t, strconv.Itoa(n)+" zeros", make([]byte, n), api.ErrCount)
	}
	for _, more := range []int{1, 64, 384, 100000} {
		refuses(t, "more by "+strconv.Itoa(more), append(slices.Clone(b), make([]byte, more)...), api.ErrCount)
	}
	// Their own sum does not help them.
	for _, n := range []int{0, 60, 379, 381, 508} {
		refuses(t, strconv.Itoa(n)+" with their sum", summed(make([]byte, n)), api.ErrCount)
	}
}

// P13.1: a sum that does not fit, whatever else is wrong.
func TestOpenSum(t *testing.T) {
	for _, s := range []segment.Seg{made(1, 1, 0), made(7, 3, 9), rightSegs()["all it takes"]} {
		b := form(s)
		for bit := range 8 * whole {
			spoiled := slices.Clone(b)
			spoiled[bit/8] ^= 1 << (bit % 8)
			refuses(t, "bit "+strconv.Itoa(bit), spoiled, api.ErrCorrupt)
		}
		lowFirst := slices.Clone(b)
		slices.Reverse(lowFirst[ahead:])
		refuses(t, "the lowest octet of the sum first", lowFirst, api.ErrCorrupt)
		refuses(t, "no sum", append(slices.Clone(b[:ahead]), 0, 0, 0, 0), api.ErrCorrupt)
	}
	refuses(t, "zeros", make([]byte, whole), api.ErrCorrupt)
	refuses(t, "ones", bytes.Repeat([]byte{255}, whole), api.ErrCorrupt)
	// Each fault that comes behind it, without a sum that fits.
	for name, c := range misfits() {
		b := slices.Clone(c.octets)
		b[ahead+3] ^= 1
		refuses(t, name+" and a wrong sum", b, api.ErrCorrupt)
	}
}

// misfit is octets whose sum fits, and what is wrong with them first.
type misfit struct {
	octets []byte
	want   api.Errno
}

// setter is one change of sealed octets.
type setter func(b []byte)

func set(at int, octets ...byte) setter {
	return func(b []byte) { copy(b[at:], octets) }
}

func setSeq(n uint64) setter {
	return func(b []byte) { binary.BigEndian.PutUint64(b[4:], n) }
}

// setOwner changes the owner of the k-th block.
func setOwner(k int, n uint32) setter {
	return func(b []byte) { binary.BigEndian.PutUint32(b[firstHead+k*perHead:], n) }
}

func setSize(k int, n byte) setter {
	return set(firstHead+k*perHead+5, n)
}

// misfits holds octets whose sum fits and that are no segment all the same.
func misfits() map[string]misfit {
	all := map[string]misfit{}
	full, few := form(made(2, mostBlocks, longest)), form(made(2, 2, 5))
	put := func(name string, b []byte, want api.Errno, changes ...setter) {
		all[name] = misfit{resummed(b, func(b []byte) {
			for _, change := range changes {
				change(b)
			}
		}), want}
	}
	noMarks(put, few)
	noStates(put, few, full)
	tails(put, few, full)
	return all
}

type putter func(name string, b []byte, want api.Errno, changes ...setter)

// noMarks puts beginnings that are not seg1, with and without faults behind them.
func noMarks(put putter, few []byte) {
	for at := range 4 {
		for bit := range 8 {
			put("mark "+strconv.Itoa(at)+" "+strconv.Itoa(bit), few, api.ErrKind, set(at, few[at]^1<<bit))
		}
	}
	for _, mark := range []string{"\x00\x00\x00\x00", "seg0", "seg2", "SEG1", "1ges", " seg"} {
		put("mark "+mark, few, api.ErrKind, set(0, []byte(mark)...))
	}
	put("zeros alone", make([]byte, ahead), api.ErrKind)
	put("mark, seq", few, api.ErrKind, set(3, '2'), setSeq(0))
	put("mark, number of blocks", few, api.ErrKind, set(3, '2'), set(12, 9))
	put("mark, owner", few, api.ErrKind, set(3, '2'), setOwner(0, 0))
	put("mark, length", few, api.ErrKind, set(3, '2'), setSize(0, 33))
	put("mark, tail", few, api.ErrKind, set(3, '2'), set(379, 1))
}

// noStates puts numbers that may not be, with and without something behind the data.
func noStates(put putter, few, full []byte) {
	put("seg1 alone", make([]byte, ahead), api.ErrState, set(0, []byte("seg1")...))
	for _, n := range []uint64{0, 1<<40 + 1, 1 << 41, 1<<48 + 5, 1<<56 + 5, 1<<63 - 1, 1 << 63, 1<<63 + 5, 1<<64 - 1} {
		put("seq "+strconv.FormatUint(n, 10), few, api.ErrState, setSeq(n))
		put("seq, tail "+strconv.FormatUint(n, 10), few, api.ErrState, setSeq(n), set(379, 1))
	}
	for _, n := range []byte{0, 9, 10, 61, 62, 63, 64, 127, 128, 136, 255} {
		name := "blocks " + strconv.Itoa(int(n))
		put(name, few, api.ErrState, set(12, n))
		put(name+" and tail", few, api.ErrState, set(12, n), set(379, 1))
		put(name+" of those that may be", bytes.Repeat([]byte{1}, ahead), api.ErrState, set(0, few[:12]...), set(12, n))
		put(name+" of long ones", bytes.Repeat([]byte{32}, ahead), api.ErrState, set(0, few[:12]...), set(12, n))
	}
	for k := range mostBlocks {
		for _, n := range []uint32{0, 1 << 31, 1<<31 + 1, 1<<32 - 1} {
			name := "owner " + strconv.FormatUint(uint64(n), 10) + " at " + strconv.Itoa(k)
			put(name, full, api.ErrState, setOwner(k, n))
			put(name+" and tail", full, api.ErrState, setOwner(k, n), set(379, 1))
		}
		for _, n := range []byte{33, 34, 64, 127, 128, 160, 254, 255} {
			name := "length " + strconv.Itoa(int(n)) + " at " + strconv.Itoa(k)
			put(name, full, api.ErrState, setSize(k, n))
			put(name+" and tail", full, api.ErrState, setSize(k, n), set(379, 1))
		}
	}
	all := make([]setter, mostBlocks)
	for k := range all {
		all[k] = setSize(k, 255)
	}
	put("all too long", full, api.ErrState, all...)
	// A block more than there are has owner 0, or the data of others.
	put("a block more", form(made(2, 2, 0)), api.ErrState, set(12, 3))
}

// tails puts octets behind the data.
func tails(put putter, few, full []byte) {
	for _, c := range []struct {
		name string
		b    []byte
		end  int
	}{{"few", few, firstHead + 2*(perHead+5)}, {"full", full, firstHead + mostBlocks*(perHead+longest)}, {"none", form(made(2, 1, 0)), firstHead + perHead}} {
		for at := c.end; at < ahead; at++ {
			put(c.name+" tail at "+strconv.Itoa(at), c.b, api.ErrTail, set(at, 1))
		}
		put(c.name+" tail of a high bit", c.b, api.ErrTail, set(c.end, 128))
		put(c.name+" tail all along", c.b, api.ErrTail, set(c.end, bytes.Repeat([]byte{255}, ahead-c.end)...))
	}
	// Shorter data leaves an octet of it behind.
	put("shorter data", few, api.ErrTail, setSize(1, 4))
	put("no data", few, api.ErrTail, setSize(0, 0), setSize(1, 0))
}

// P13.1: octets whose sum fits: the first of what is wrong with them.
func TestOpenRefuses(t *testing.T) {
	for name, c := range misfits() {
		refuses(t, name, c.octets, c.want)
	}
}

// P13.1: what looks like a fault and is none.
func TestOpenTakes(t *testing.T) {
	few := form(made(2, 2, 5))
	for name, b := range map[string][]byte{
		"seq 2^40":         resummed(few, setSeq(1<<40)),
		"owner 2^31 - 1":   resummed(few, setOwner(1, 1<<31-1)),
		"index 255":        resummed(few, set(firstHead+4, 255)),
		"longer data":      resummed(few, setSize(1, 6)),
		"longest data":     resummed(few, setSize(1, 32)),
		"one block's data": resummed(few, func(b []byte) { setSize(0, 10)(b); setSize(1, 0)(b) }),
	} {
		s, err := segment.Open(b)
		if err != api.OK || !bytes.Equal(form(s), b) {
			t.Errorf("%s: Open = %v, %d", name, s, err)
		}
	}
}

// opened is what Open answers, by a plain reading of the chapter.
func opened(b []byte) (segment.Seg, api.Errno) {
	if len(b) != whole {
		return segment.Seg{}, api.ErrCount
	}
	if crc32.ChecksumIEEE(b[:ahead]) != binary.BigEndian.Uint32(b[ahead:]) {
		return segment.Seg{}, api.ErrCorrupt
	}
	if string(b[:4]) != "seg1" {
		return segment.Seg{}, api.ErrKind
	}
	seq, n := binary.BigEndian.Uint64(b[4:]), int(b[12])
	if seq < 1 || seq > highestSeq || n < 1 || n > mostBlocks {
		return segment.Seg{}, api.ErrState
	}
	s := segment.Seg{Seq: int(seq)}
	at := firstHead + n*perHead
	for k := range n {
		head := b[firstHead+k*perHead:]
		owner, size := binary.BigEndian.Uint32(head), int(head[5])
		if owner < 1 || owner > highestOwner || size > longest {
			return segment.Seg{}, api.ErrState
		}
		s.Blocks = append(s.Blocks, segment.Block{Owner: int(owner), Index: int(head[4]), Data: b[at : at+size]})
		at += size
	}
	for _, octet := range b[at:ahead] {
		if octet != 0 {
			return segment.Seg{}, api.ErrTail
		}
	}
	return s, api.OK
}

// spoilt is octets like those of a segment, with some of them changed, and mostly a sum that fits.
func spoilt(chance *rand.Rand) []byte {
	b := form(anySeg(chance))
	for range chance.Intn(4) {
		// Most of what may be wrong stands in the summary.
		end := []int{firstHead, firstHead + perHead, 61, ahead}[chance.Intn(4)]
		b[chance.Intn(end)] = []byte{0, 1, 8, 9, 32, 33, 127, 128, 255, byte(chance.Intn(256))}[chance.Intn(10)]
	}
	if chance.Intn(8) > 0 {
		b = summed(b[:ahead])
	}
	return b
}

// P13.1, P13.3: spoilt octets are opened as the chapter says; what Open takes is Seal of it.
func TestOpenSpoilt(t *testing.T) {
	chance := rand.New(rand.NewSource(31))
	told := map[api.Errno]int{}
	for range 20000 {
		b := spoilt(chance)
		want, wantErr := opened(b)
		got, err := segment.Open(b)
		if err != wantErr || !same(got, want) {
			t.Fatalf("Open(%x) = %v, %d, want %v, %d", b, got, err, want, wantErr)
		}
		told[err]++
		if err != api.OK {
			continue
		}
		if again, err := segment.Seal(got); err != api.OK || !bytes.Equal(again, b) {
			t.Fatalf("Seal of Open(%x) = %x, %d", b, again, err)
		}
	}
	for _, err := range []api.Errno{api.OK, api.ErrCorrupt, api.ErrKind, api.ErrState, api.ErrTail} {
		if told[err] < 100 {
			t.Errorf("error %d is told %d times", err, told[err])
		}
	}
}

// P1: Open ends on octets of chance, too, with a sum that fits.
func TestOpenChance(t *testing.T) {
	chance := rand.New(rand.NewSource(17))
	for range 5000 {
		b := make([]byte, ahead)
		chance.Read(b)
		if chance.Intn(2) == 0 {
			copy(b, "seg1\x00\x00\x00")
		}
		b = summed(b)
		want, wantErr := opened(b)
		if got, err := segment.Open(b); err != wantErr || !same(got, want) {
			t.Fatalf("Open(%x) = %v, %d, want %d", b, got, err, wantErr)
		}
	}
}

// mixed is fresh with those sectors of elder whose bits are set.
func mixed(fresh, elder []byte, bits int) []byte {
	b := slices.Clone(fresh)
	for k := range whole / sector {
		if bits>>k&1 == 1 {
			copy(b[k*sector:(k+1)*sector], elder[k*sector:])
		}
	}
	return b
}

// P13.4: a segment with old sectors, or zeros, is not opened; one whose sectors are all as they were is.
func TestTorn(t *testing.T) {
	elders := [][]byte{make([]byte, whole), bytes.Repeat([]byte{255}, whole), form(made(3, mostBlocks, longest)), form(made(4, 2, 7)), form(made(9, 1, 0))}
	news := []segment.Seg{made(4, mostBlocks, longest), made(5, mostBlocks, 31), made(6, 5, 20), made(7, 1, 1), made(8, 3, 0)}
	torn := 0
	for _, s := range news {
		fresh := form(s)
		for _, elder := range elders {
			for bits := range 1 << (whole / sector) {
				b := mixed(fresh, elder, bits)
				if bytes.Equal(b, fresh) {
					if got, err := segment.Open(b); err != api.OK || !same(got, s) {
						t.Errorf("whole: %v, %d", got, err)
					}
					continue
				}
				if bytes.Equal(b, elder) {
					continue
				}
				// If the sum fits by chance, nothing is promised.
				if crc32.ChecksumIEEE(b[:ahead]) != binary.BigEndian.Uint32(b[ahead:]) {
					torn++
					refuses(t, "torn", b, api.ErrCorrupt)
				}
			}
		}
	}
	if torn < 500 {
		t.Errorf("%d torn segments", torn)
	}
}
