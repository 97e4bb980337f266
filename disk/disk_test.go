package disk_test

import (
	"bytes"
	"math"
	"math/rand"
	"reflect"
	"slices"
	"testing"
	"unsafe"

	"undercroft/api"
	"undercroft/disk"
)

// The faces keep the signatures of the chapter.
var (
	_ func(int) (disk.State, api.Errno)                     = disk.New
	_ func(disk.State) api.Errno                            = disk.Check
	_ func(disk.State, int, []byte) (disk.State, api.Errno) = disk.Put
	_ func(disk.State, int) ([]byte, api.Errno)             = disk.Get
	_ func(disk.State, int, []byte) (disk.State, api.Errno) = disk.PutAll
	_ func(disk.State, int, int) ([]byte, api.Errno)        = disk.GetAll
	_ func(disk.State) (disk.State, api.Errno)              = disk.Flush
	_ func(disk.State, []bool) (disk.State, api.Errno)      = disk.Crash
)

const size = api.SectorSize

// octets is n octets that differ from their neighbours, none of them zero.
func octets(seed, n int) []byte {
	b := make([]byte, n)
	for i := range b {
		b[i] = byte(1 + (seed*37+i*5)%255)
	}
	return b
}

// filled is b, and zeros up to a sector.
func filled(b []byte) []byte {
	out := slices.Clone(b)
	for len(out) < size {
		out = append(out, 0)
	}
	return out
}

// made is a disk of n sectors, each of octets of its own, with the writes of those sectors in its cache.
func made(n int, sectors ...int) disk.State {
	var s disk.State
	for i := range n {
		s.Sectors = append(s.Sectors, octets(i, size))
	}
	for i, sector := range sectors {
		s.Cache = append(s.Cache, disk.Write{Sector: sector, Data: octets(100+i, size)})
	}
	return s
}

// full is a disk of two sectors whose cache has so many writes, by turns.
func full(writes int) disk.State {
	s := made(2)
	for i := range writes {
		s.Cache = append(s.Cache, disk.Write{Sector: i % 2, Data: octets(i, size)})
	}
	return s
}

func copied(s disk.State) disk.State {
	var out disk.State
	for _, b := range s.Sectors {
		out.Sectors = append(out.Sectors, slices.Clone(b))
	}
	for _, w := range s.Cache {
		out.Cache = append(out.Cache, disk.Write{Sector: w.Sector, Data: slices.Clone(w.Data)})
	}
	return out
}

// same takes nil and empty lists as one.
func same(a, b disk.State) bool {
	return slices.EqualFunc(a.Sectors, b.Sectors, bytes.Equal) && slices.EqualFunc(a.Cache, b.Cache, func(x, y disk.Write) bool {
		return x.Sector == y.Sector && bytes.Equal(x.Data, y.Data)
	})
}

func isZero(s disk.State) bool {
	return len(s.Sectors) == 0 && len(s.Cache) == 0
}

// wrongStates holds states that may not be, each for one cause.
func wrongStates() map[string]disk.State {
	change := func(f func(*disk.State)) disk.State {
		s := made(3, 0, 2, 1)
		f(&s)
		return s
	}
	return map[string]disk.State{
		"zero":           {},
		"empty":          {Sectors: [][]byte{}, Cache: []disk.Write{}},
		"no sectors":     {Cache: made(1, 0).Cache},
		"2049 sectors":   made(2049),
		"short first":    change(func(s *disk.State) { s.Sectors[0] = octets(0, size-1) }),
		"long last":      change(func(s *disk.State) { s.Sectors[2] = octets(0, size+1) }),
		"nil sector":     change(func(s *disk.State) { s.Sectors[1] = nil }),
		"4097 writes":    full(4097),
		"write below 0":  change(func(s *disk.State) { s.Cache[0].Sector = -1 }),
		"write behind":   change(func(s *disk.State) { s.Cache[2].Sector = 3 }),
		"write at most":  change(func(s *disk.State) { s.Cache[1].Sector = math.MaxInt }),
		"write at least": change(func(s *disk.State) { s.Cache[1].Sector = math.MinInt }),
		"short write":    change(func(s *disk.State) { s.Cache[2].Data = octets(0, size-1) }),
		"long write":     change(func(s *disk.State) { s.Cache[0].Data = octets(0, size+1) }),
		"nil write":      change(func(s *disk.State) { s.Cache[1].Data = nil }),
	}
}

// P3.1: New, with its edges and wrong numbers.
func TestNew(t *testing.T) {
	for _, n := range []int{1, 2, 3, 64, 2047, 2048} {
		s, err := disk.New(n)
		if err != api.OK || len(s.Sectors) != n || len(s.Cache) != 0 {
			t.Fatalf("New(%d): %d, %d sectors, %d writes", n, err, len(s.Sectors), len(s.Cache))
		}
		for i, b := range s.Sectors {
			if !bytes.Equal(b, make([]byte, size)) {
				t.Errorf("New(%d): sector %d is %x", n, i, b)
			}
		}
		if err := disk.Check(s); err != api.OK {
			t.Errorf("Check(New(%d)) = %d", n, err)
		}
	}
	for _, n := range []int{0, -1, 2049, 4096, math.MinInt, math.MaxInt} {
		if s, err := disk.New(n); err != api.ErrRange || !isZero(s) {
			t.Errorf("New(%d) = %d, %d sectors", n, err, len(s.Sectors))
		}
	}
}

// P3.1: Check, with states at the edges, and those that may not be.
func TestCheck(t *testing.T) {
	for name, s := range map[string]disk.State{
		"one sector":   made(1),
		"one write":    made(1, 0),
		"empty cache":  {Sectors: made(1).Sectors, Cache: []disk.Write{}},
		"2048 sectors": made(2048, 0, 2047, 2047),
		"4096 writes":  full(4096),
	} {
		if err := disk.Check(s); err != api.OK {
			t.Errorf("%s: Check = %d", name, err)
		}
	}
	for name, s := range wrongStates() {
		if err := disk.Check(s); err != api.ErrState {
			t.Errorf("%s: Check = %d", name, err)
		}
	}
}

// P3.1: all others answer Check's error first, whatever else is wrong.
func TestCheckFirst(t *testing.T) {
	for name, s := range wrongStates() {
		for _, sector := range []int{0, -1, 5000} {
			data := octets(1, 65)
			puts, putErr := disk.Put(s, sector, data)
			alls, allErr := disk.PutAll(s, sector, data)
			b, getErr := disk.Get(s, sector)
			bs, getsErr := disk.GetAll(s, sector, sector)
			flushed, flushErr := disk.Flush(s)
			crashed, crashErr := disk.Crash(s, []bool{true, true})
			for i, err := range []api.Errno{putErr, allErr, getErr, getsErr, flushErr, crashErr} {
				if err != api.ErrState {
					t.Errorf("%s: call %d at %d: %d", name, i, sector, err)
				}
			}
			if !isZero(puts) || !isZero(alls) || len(b) != 0 || len(bs) != 0 || !isZero(flushed) || !isZero(crashed) {
				t.Errorf("%s: an answer beside the error", name)
			}
		}
	}
}

// P3.1: Put adds one write, of data and zeros, and leaves the rest as it is.
func TestPut(t *testing.T) {
	for _, s := range []disk.State{made(1), made(3, 0, 2, 0), full(4095), made(2048)} {
		for _, sector := range []int{0, len(s.Sectors) / 2, len(s.Sectors) - 1} {
			for _, n := range []int{0, 1, 2, 63, 64} {
				data := octets(9, n)
				got, err := disk.Put(s, sector, data)
				want := copied(s)
				want.Cache = append(want.Cache, disk.Write{Sector: sector, Data: filled(data)})
				if err != api.OK || !same(got, want) {
					t.Errorf("Put of %d octets at %d of %d: %d", n, sector, len(s.Sectors), err)
				}
			}
		}
	}
	got, err := disk.Put(made(1), 0, nil)
	if err != api.OK || len(got.Cache) != 1 || !bytes.Equal(got.Cache[0].Data, make([]byte, size)) {
		t.Errorf("Put(nil): %d, %v", err, got.Cache)
	}
}

// P3.1 and P4: Put refuses, in the order of the errors.
func TestPutRefuses(t *testing.T) {
	room, none := made(2), full(4096)
	for _, c := range []struct {
		name   string
		s      disk.State
		sector int
		n      int
		want   api.Errno
	}{
		{"below", room, -1, 2, api.ErrSector},
		{"behind", room, 2, 2, api.ErrSector},
		{"behind, empty", room, 2, 0, api.ErrSector},
		{"least", room, math.MinInt, 2, api.ErrSector},
		{"most", room, math.MaxInt, 2, api.ErrSector},
		{"below and long", room, -1, 65, api.ErrSector},
		{"behind, long and full", none, 2, 65, api.ErrSector},
		{"behind and full", none, 2, 1, api.ErrSector},
		{"long by one", room, 1, 65, api.ErrLong},
		{"long", room, 0, 10000, api.ErrLong},
		{"long and full", none, 1, 65, api.ErrLong},
		{"full", none, 1, 64, api.ErrFull},
		{"full, empty", none, 0, 0, api.ErrFull},
	} {
		if s, err := disk.Put(c.s, c.sector, octets(1, c.n)); err != c.want || !isZero(s) {
			t.Errorf("%s: %d, want %d", c.name, err, c.want)
		}
	}
}

// P3.1: Get tells the last write of a sector, or the sector.
func TestGet(t *testing.T) {
	s := made(4, 1, 2, 1, 3, 1, 2)
	for sector, want := range [][]byte{s.Sectors[0], s.Cache[4].Data, s.Cache[5].Data, s.Cache[3].Data} {
		if got, err := disk.Get(s, sector); err != api.OK || !bytes.Equal(got, want) {
			t.Errorf("Get(%d) = %x, %d", sector, got, err)
		}
	}
	for _, sector := range []int{-1, 4, 5, math.MinInt, math.MaxInt} {
		if got, err := disk.Get(s, sector); err != api.ErrSector || len(got) != 0 {
			t.Errorf("Get(%d) = %x, %d", sector, got, err)
		}
	}
}

// P3.2: PutAll puts 64 octets after another, the last filled up with zeros.
func TestPutAll(t *testing.T) {
	for _, n := range []int{0, 1, 63, 64, 65, 127, 128, 129, 191, 192, 2048 * 64} {
		need := (n + 63) / 64
		for _, total := range []int{max(1, need), need + 1, need + 3} {
			if total > 2048 {
				continue
			}
			for _, sector := range []int{0, (total - need) / 2, total - need} {
				s := made(total, 0, total-1)
				data := octets(7, n)
				got, err := disk.PutAll(s, sector, data)
				want := copied(s)
				for i := range need {
					want.Cache = append(want.Cache, disk.Write{Sector: sector + i, Data: filled(data[64*i : min(n, 64*i+64)])})
				}
				if err != api.OK || !same(got, want) {
					t.Errorf("PutAll of %d octets at %d of %d: %d", n, sector, total, err)
				}
			}
		}
	}
}

// P3.2 and P4: PutAll refuses, in the order of the errors; the edges of each.
func TestPutAllEdges(t *testing.T) {
	for _, c := range []struct {
		name   string
		s      disk.State
		sector int
		n      int
		want   api.Errno
	}{
		{"below", made(3), -1, 1, api.ErrSector},
		{"below, empty", made(3), -1, 0, api.ErrSector},
		{"least, empty", made(3), math.MinInt, 0, api.ErrSector},
		{"least", made(3), math.MinInt, 65, api.ErrSector},
		{"last", made(3), 2, 64, api.OK},
		{"over the end by one octet", made(3), 2, 65, api.ErrSector},
		{"over the end from the beginning", made(3), 0, 193, api.ErrSector},
		{"to the end", made(3), 0, 192, api.OK},
		{"behind the last", made(3), 3, 1, api.ErrSector},
		{"behind the last, empty", made(3), 3, 0, api.OK},
		{"two behind the last, empty", made(3), 4, 0, api.ErrSector},
		{"most, empty", made(3), math.MaxInt, 0, api.ErrSector},
		{"most", made(3), math.MaxInt, 65, api.ErrSector},
		{"full", full(4096), 0, 1, api.ErrFull},
		{"full, empty", full(4096), 0, 0, api.OK},
		{"full, empty, behind the last", full(4096), 2, 0, api.OK},
		{"full by one", full(4095), 0, 65, api.ErrFull},
		{"just full", full(4095), 1, 64, api.OK},
		{"just full by two", full(4094), 0, 65, api.OK},
		{"over the end and full", full(4096), 1, 65, api.ErrSector},
		{"below and full", full(4096), -1, 65, api.ErrSector},
	} {
		s, err := disk.PutAll(c.s, c.sector, octets(1, c.n))
		if err != c.want || err != api.OK && !isZero(s) {
			t.Errorf("%s: %d, want %d", c.name, err, c.want)
		}
		if c.want == api.OK && len(s.Cache) != len(c.s.Cache)+(c.n+63)/64 {
			t.Errorf("%s: %d writes", c.name, len(s.Cache))
		}
	}
}

// P3.2: GetAll tells the octets of n sectors, from the cache or not; its edges.
func TestGetAll(t *testing.T) {
	s := made(4, 1, 2, 1)
	all := slices.Concat(s.Sectors[0], s.Cache[2].Data, s.Cache[1].Data, s.Sectors[3])
	for sector := range 5 {
		for n := range 5 - sector {
			got, err := disk.GetAll(s, sector, n)
			if err != api.OK || !bytes.Equal(got, all[64*sector:64*(sector+n)]) {
				t.Errorf("GetAll(%d, %d) = %x, %d", sector, n, got, err)
			}
		}
	}
	for _, c := range [][2]int{
		{-1, 0}, {-1, 1}, {-1, 5}, {0, -1}, {4, -1}, {5, -1}, {0, 5}, {3, 2}, {4, 1}, {5, 0}, {5, 1},
		{math.MinInt, 0}, {math.MinInt, math.MinInt}, {math.MinInt, math.MaxInt},
		{math.MaxInt, 0}, {math.MaxInt, 1}, {math.MaxInt, math.MaxInt}, {math.MaxInt, math.MinInt},
		{0, math.MaxInt}, {0, math.MinInt}, {1, math.MaxInt}, {1, 1 << 58},
	} {
		if got, err := disk.GetAll(s, c[0], c[1]); err != api.ErrSector || len(got) != 0 {
			t.Errorf("GetAll(%d, %d) = %x, %d", c[0], c[1], got, err)
		}
	}
	if got, err := disk.GetAll(made(2048), 0, 2048); err != api.OK || len(got) != 2048*64 {
		t.Errorf("GetAll of all: %d octets, %d", len(got), err)
	}
}

// P3.3: Flush lays all writes in their sectors, in order.
func TestFlush(t *testing.T) {
	s := made(4, 1, 2, 1, 3, 1, 2)
	got, err := disk.Flush(s)
	want := disk.State{Sectors: [][]byte{s.Sectors[0], s.Cache[4].Data, s.Cache[5].Data, s.Cache[3].Data}}
	if err != api.OK || !same(got, want) {
		t.Errorf("Flush: %d", err)
	}
	if got, err := disk.Flush(made(2048)); err != api.OK || !same(got, made(2048)) {
		t.Errorf("Flush of an empty cache: %d", err)
	}
	s = full(4096)
	want = disk.State{Sectors: [][]byte{s.Cache[4094].Data, s.Cache[4095].Data}}
	if got, err := disk.Flush(s); err != api.OK || !same(got, want) {
		t.Errorf("Flush of a full cache: %d", err)
	}
}

// P3.3: Crash keeps each choice of six writes, told by lists of each length.
func TestCrash(t *testing.T) {
	s := made(4, 1, 2, 1, 3, 1, 2)
	for told := range 9 {
		for bits := range 1 << told {
			keep := make([]bool, told)
			want := disk.State{Sectors: copied(s).Sectors}
			for i := range keep {
				keep[i] = bits>>i&1 == 1
				if keep[i] && i < len(s.Cache) {
					want.Sectors[s.Cache[i].Sector] = s.Cache[i].Data
				}
			}
			if got, err := disk.Crash(s, keep); err != api.OK || !same(got, want) {
				t.Errorf("Crash(%v): %d", keep, err)
			}
		}
	}
	lost := disk.State{Sectors: s.Sectors}
	for _, keep := range [][]bool{nil, {}} {
		if got, err := disk.Crash(s, keep); err != api.OK || !same(got, lost) {
			t.Errorf("Crash(%v): %d", keep, err)
		}
	}
}

// Example 1 of the chapter.
func TestExample(t *testing.T) {
	s, _ := disk.New(2)
	s, _ = disk.Put(s, 1, []byte("ab"))
	for _, c := range []struct {
		keep []bool
		want string
	}{{nil, ""}, {[]bool{false}, ""}, {[]bool{true}, "ab"}} {
		after, _ := disk.Crash(s, c.keep)
		for sector, want := range []string{"", c.want} {
			if got, err := disk.Get(after, sector); err != api.OK || !bytes.Equal(got, filled([]byte(want))) {
				t.Errorf("Crash(%v), Get(%d) = %q, %d", c.keep, sector, got, err)
			}
		}
	}
}

// P3.4: what was put is got, flushed or not.
func TestPutIsGot(t *testing.T) {
	chance := rand.New(rand.NewSource(34))
	for range 300 {
		n := 1 + chance.Intn(6)
		s := made(n)
		want := slices.Concat(s.Sectors...)
		for step := range 12 {
			sector, data := chance.Intn(n), octets(step, chance.Intn(65))
			err := api.OK
			switch chance.Intn(3) {
			case 0:
				s, err = disk.Put(s, sector, data)
				copy(want[64*sector:], filled(data))
			case 1:
				data = octets(step, chance.Intn(64*(n-sector)+1))
				s, err = disk.PutAll(s, sector, data)
				copy(want[64*sector:], data)
				clear(want[64*sector+len(data) : 64*sector+(len(data)+63)/64*64])
			case 2:
				s, err = disk.Flush(s)
			}
			got, getErr := disk.GetAll(s, 0, n)
			if err != api.OK || getErr != api.OK || !bytes.Equal(got, want) {
				t.Fatalf("step %d: %d, %d: %x, want %x", step, err, getErr, got, want)
			}
			if got, err := disk.Get(s, sector); err != api.OK || !bytes.Equal(got, want[64*sector:64*sector+64]) {
				t.Fatalf("step %d: Get(%d) = %x, %d", step, sector, got, err)
			}
		}
	}
}

// P3.5: behind a flush no crash changes anything.
func TestCrashBehindFlush(t *testing.T) {
	for _, s := range []disk.State{made(1), made(1, 0), made(4, 1, 2, 1, 3), full(4096)} {
		flushed, _ := disk.Flush(s)
		for _, keep := range [][]bool{nil, {false}, {true}, {true, false, true}, make([]bool, 5000)} {
			if got, err := disk.Crash(flushed, keep); err != api.OK || !same(got, flushed) {
				t.Errorf("Crash(%v) behind Flush: %d", keep, err)
			}
		}
	}
}

// P3.6: behind a crash each sector is what it was, or what one of its writes had.
func TestSectorsBehindCrash(t *testing.T) {
	chance := rand.New(rand.NewSource(36))
	for range 300 {
		n := 1 + chance.Intn(5)
		s := made(n)
		for i := range chance.Intn(10) {
			s, _ = disk.PutAll(s, chance.Intn(n), octets(50+i, 1+chance.Intn(64)))
		}
		keep := make([]bool, chance.Intn(12))
		for i := range keep {
			keep[i] = chance.Intn(2) == 0
		}
		after, err := disk.Crash(s, keep)
		if err != api.OK || len(after.Sectors) != n || len(after.Cache) != 0 {
			t.Fatalf("Crash(%v): %d, %d sectors", keep, err, len(after.Sectors))
		}
		for i, b := range after.Sectors {
			ok := bytes.Equal(b, s.Sectors[i])
			for _, w := range s.Cache {
				ok = ok || w.Sector == i && bytes.Equal(w.Data, b)
			}
			if !ok {
				t.Errorf("Crash(%v): sector %d is %x", keep, i, b)
			}
		}
	}
}

// spans tells where each list of s lies in memory, up to its capacity.
func spans(s disk.State) [][2]uintptr {
	list := [][2]uintptr{span(s.Sectors), span(s.Cache)}
	for _, b := range s.Sectors {
		list = append(list, span(b))
	}
	for _, w := range s.Cache {
		list = append(list, span(w.Data))
	}
	return list
}

func span[T any](list []T) [2]uintptr {
	from := uintptr(unsafe.Pointer(unsafe.SliceData(list)))
	return [2]uintptr{from, from + uintptr(cap(list))*unsafe.Sizeof(*new(T))}
}

// apart tells whether no two of the spans overlap.
func apart(list [][2]uintptr) bool {
	list = slices.DeleteFunc(slices.Clone(list), func(s [2]uintptr) bool { return s[0] == s[1] })
	slices.SortFunc(list, func(a, b [2]uintptr) int { return slices.Compare(a[:], b[:]) })
	for i := range list {
		if i > 0 && list[i][0] < list[i-1][1] {
			return false
		}
	}
	return true
}

// P3.7: what is handed in is not changed, and an answer shares no memory with it, with another answer, nor within itself.
func TestMemory(t *testing.T) {
	// Lists that share memory go in as well: all lists of an answer are its own all the same.
	one := octets(3, size)
	shared := disk.State{Sectors: [][]byte{one, one, one}, Cache: []disk.Write{{Sector: 0, Data: one}, {Sector: 2, Data: one}}}
	roomy := made(3, 1, 2)
	roomy.Sectors = append(make([][]byte, 0, 50), roomy.Sectors...)
	roomy.Cache = append(make([]disk.Write, 0, 50), roomy.Cache...)
	long := slices.Concat(octets(5, size), octets(6, size))
	roomy.Sectors[1] = long[:size]
	for _, s := range []disk.State{made(3), made(3, 1, 2), shared, roomy} {
		data, keep := octets(8, size), []bool{true, false, true}
		before := copied(s)
		var list [][2]uintptr
		calls := []func() disk.State{
			func() disk.State { out, _ := disk.New(3); return out },
			func() disk.State { out, _ := disk.Put(s, 1, data); return out },
			func() disk.State { out, _ := disk.Put(s, 1, s.Sectors[0]); return out },
			func() disk.State { out, _ := disk.PutAll(s, 1, data); return out },
			func() disk.State { out, _ := disk.PutAll(s, 1, nil); return out },
			func() disk.State { out, _ := disk.PutAll(s, 0, long); return out },
			func() disk.State { out, _ := disk.Flush(s); return out },
			func() disk.State { out, _ := disk.Crash(s, keep); return out },
			func() disk.State { out, _ := disk.Crash(s, nil); return out },
			func() disk.State { b, _ := disk.Get(s, 1); return disk.State{Sectors: [][]byte{b}} },
			func() disk.State { b, _ := disk.GetAll(s, 0, 3); return disk.State{Sectors: [][]byte{b}} },
		}
		var answers []disk.State
		for range 2 {
			for _, call := range calls {
				answers = append(answers, call())
				list = append(list, spans(answers[len(answers)-1])...)
			}
		}
		if !apart(list) {
			t.Error("answers share memory")
		}
		for _, given := range append(spans(s), span(data), span(keep), span(long)) {
			for _, answer := range list {
				if !apart([][2]uintptr{given, answer}) {
					t.Fatal("an answer shares memory with what was handed in")
				}
			}
		}
		kept := slices.Equal(keep, []bool{true, false, true}) && bytes.Equal(data, octets(8, size))
		if !same(s, before) || !kept || !bytes.Equal(long, slices.Concat(octets(5, size), octets(6, size))) {
			t.Error("what was handed in is changed")
		}
		if len(roomy.Cache) != 2 || roomy.Cache[:3][2].Data != nil {
			t.Error("something stands behind the cache that was handed in")
		}
	}
}

// P3: the same call answers the same again.
func TestAgain(t *testing.T) {
	run := func() []disk.State {
		s := made(4, 1, 2, 1)
		put, _ := disk.Put(s, 3, []byte("abc"))
		all, _ := disk.PutAll(put, 1, octets(2, 130))
		crashed, _ := disk.Crash(all, []bool{false, true, true, false, true})
		flushed, _ := disk.Flush(all)
		return []disk.State{put, all, crashed, flushed}
	}
	if !reflect.DeepEqual(run(), run()) {
		t.Error("the same calls answer otherwise")
	}
}

// FuzzDisk plays any script of puts, flushes and crashes beside a plain model: what stands in the sectors, and what is got.
func FuzzDisk(f *testing.F) {
	f.Add(1, []byte{})
	f.Add(3, []byte{0, 1, 5, 1, 0, 130, 3, 5, 9, 2, 0, 0})
	f.Add(5, []byte{1, 0, 255, 1, 3, 200, 3, 170, 2, 0, 4, 64, 2, 1, 1})
	f.Add(0, []byte{1, 2, 3})
	f.Add(2049, []byte{0, 0, 0})
	f.Add(-5, []byte{2, 2, 2})
	f.Fuzz(func(t *testing.T, n int, script []byte) {
		s, err := disk.New(n)
		if n < 1 || n > 2048 {
			if err != api.ErrRange {
				t.Fatalf("New(%d): %d", n, err)
			}
			return
		}
		m := newModel(n)
		for at := 0; at+2 < min(len(script), 150); at += 3 {
			s = m.step(t, s, script[at], int(script[at+1])-2, int(script[at+2]))
			m.hold(t, s)
		}
	})
}

// model keeps a disk's octets in one piece, with the flushed and the newest beside each other.
type model struct {
	stands, newest []byte
	places         []int // the sector of each write that waits
	waits          [][]byte
}

func newModel(n int) *model {
	return &model{stands: make([]byte, 64*n), newest: make([]byte, 64*n)}
}

func (m *model) put(sector int, b []byte) {
	m.places = append(m.places, sector)
	m.waits = append(m.waits, filled(b))
	copy(m.newest[64*sector:], filled(b))
}

func (m *model) settle(lands func(int) bool) {
	for i, sector := range m.places {
		if lands(i) {
			copy(m.stands[64*sector:], m.waits[i])
		}
	}
	m.places, m.waits = nil, nil
	m.newest = slices.Clone(m.stands)
}

func (m *model) step(t *testing.T, s disk.State, kind byte, sector, n int) disk.State {
	total := len(m.stands) / 64
	data := octets(sector+n+9, n)
	var next disk.State
	var err, want api.Errno
	switch kind % 4 {
	case 0:
		next, err = disk.Put(s, sector, data)
		switch {
		case sector < 0 || sector >= total:
			want = api.ErrSector
		case n > 64:
			want = api.ErrLong
		default:
			m.put(sector, data)
		}
	case 1:
		next, err = disk.PutAll(s, sector, data)
		if sector < 0 || 64*sector+n > 64*total {
			want = api.ErrSector
			break
		}
		for i := 0; i < n; i += 64 {
			m.put(sector+i/64, data[i:min(n, i+64)])
		}
	case 2:
		next, err = disk.Flush(s)
		m.settle(func(int) bool { return true })
	case 3:
		keep := make([]bool, 10)
		for i := range keep {
			keep[i] = n>>(i%8)&1 == 1
		}
		next, err = disk.Crash(s, keep)
		m.settle(func(i int) bool { return i < 10 && keep[i] })
	}
	if err != want {
		t.Fatalf("kind %d at %d with %d: %d, want %d", kind%4, sector, n, err, want)
	}
	if err != api.OK {
		return s
	}
	return next
}

func (m *model) hold(t *testing.T, s disk.State) {
	total := len(m.stands) / 64
	if err := disk.Check(s); err != api.OK || len(s.Sectors) != total || len(s.Cache) != len(m.places) {
		t.Fatalf("Check = %d, %d sectors, %d writes", err, len(s.Sectors), len(s.Cache))
	}
	if !bytes.Equal(slices.Concat(s.Sectors...), m.stands) {
		t.Fatal("the sectors are not the model's")
	}
	for i, w := range s.Cache {
		if w.Sector != m.places[i] || !bytes.Equal(w.Data, m.waits[i]) {
			t.Fatalf("write %d is not the model's", i)
		}
	}
	if got, err := disk.GetAll(s, 0, total); err != api.OK || !bytes.Equal(got, m.newest) {
		t.Fatalf("GetAll: %d: not the model's", err)
	}
}
