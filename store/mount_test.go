package store_test

import (
	"math"
	"math/rand"
	"slices"
	"strconv"
	"testing"

	"undercroft/api"
	"undercroft/disk"
	"undercroft/log"
	"undercroft/point"
	"undercroft/segment"
	"undercroft/store"
)

// layout is what a disk is made of.
type layout struct {
	points []point.Point  // each in the region of its epoch
	slots  map[int][]byte // what stands in a slot
	segs   []segment.Seg  // of each slot, where slots says nothing
}

// diskWith is a disk of so many slots; free ones have zeros.
func diskWith(n int, w layout) disk.State {
	all := make([]byte, slotAt(n))
	for _, p := range w.points {
		copy(all[regionAt(p.Epoch):], pointForm(p))
	}
	for slot, g := range w.segs {
		if g.Seq > 0 {
			copy(all[slotAt(slot):], segmentForm(g))
		}
	}
	for slot, b := range w.slots {
		copy(all[slotAt(slot):][:sealedSize], b)
	}
	return landed(all)
}

// cached is a disk of other octets, in whose cache all of d is.
func cached(d disk.State) disk.State {
	out := diskOf(len(d.Sectors), 9)
	for i, b := range d.Sectors {
		out.Cache = append(out.Cache, disk.Write{Sector: i, Data: b})
	}
	return out
}

// holdMount holds a mount to the plain reading, and to what follows from it.
func holdMount(t *testing.T, name string, d disk.State, n int) api.Errno {
	t.Helper()
	want, wantErr := plainMount(d, n)
	got, err := store.Mount(d, n)
	if err != wantErr || !same(got, want) {
		t.Fatalf("%s: Mount = %s, %d, want %s, %d", name, brief(got), err, brief(want), wantErr)
	}
	if err != api.OK {
		return err
	}
	if err := log.Check(got.Log); err != api.OK {
		t.Fatalf("%s: %s: Check = %d", name, brief(got), err)
	}
	if again, err := store.Mount(got.Disk, n); err != api.OK || !same(again, got) {
		t.Fatalf("%s: %s: Mount once more = %s, %d", name, brief(got), brief(again), err)
	}
	// What was mounted is a store that all calls take.
	if synced, err := store.Sync(got); err != api.OK || !same(synced, got) {
		t.Fatalf("%s: %s: Sync = %s, %d", name, brief(got), brief(synced), err)
	}
	return api.OK
}

func at(epoch, seq int, named ...int) point.Point {
	return point.Point{Epoch: epoch, Seq: seq, View: epoch % 5, Commit: seq % 7, Data: numbers(named...)}
}

// one is a segment of a block that tells its number.
func one(seq int) segment.Seg {
	return seg(seq, block(1, seq%200, strconv.Itoa(seq)))
}

func ones(seqs ...int) []segment.Seg {
	var l []segment.Seg
	for _, seq := range seqs {
		if seq == 0 {
			l = append(l, segment.Seg{})
			continue
		}
		l = append(l, one(seq))
	}
	return l
}

// P18.3, P18.5, P18.7: what a mount takes of a disk of four slots, and what it refuses.
func TestMount(t *testing.T) {
	torn := segmentForm(one(5))
	clear(torn[2*sector : 3*sector])
	torn[70]++
	kind := segmentForm(one(5))
	kind[0] = 'S'
	for name, c := range map[string]struct {
		w    layout
		want []int
		next int
		err  api.Errno
	}{
		"none in use":                           {layout{points: []point.Point{at(1, 0, 0, 0, 0, 0)}}, []int{0, 0, 0, 0}, 1, api.OK},
		"all that are named":                    {layout{points: []point.Point{at(1, 4, 2, 4, 1, 3)}, segs: ones(2, 4, 1, 3)}, []int{2, 4, 1, 3}, 5, api.OK},
		"none is named, the last was higher":    {layout{points: []point.Point{at(3, 9, 0, 0, 0, 0)}}, []int{0, 0, 0, 0}, 10, api.OK},
		"elder ones that are not named":         {layout{points: []point.Point{at(1, 4, 0, 4, 0, 0)}, segs: ones(2, 4, 1, 3)}, []int{0, 4, 0, 0}, 5, api.OK},
		"one of the point's Seq, not named":     {layout{points: []point.Point{at(1, 4, 0, 2, 0, 0)}, segs: ones(4, 2, 0, 0)}, []int{0, 2, 0, 0}, 5, api.OK},
		"one behind":                            {layout{points: []point.Point{at(1, 4, 4, 0, 0, 0)}, segs: ones(4, 0, 5, 0)}, []int{4, 0, 5, 0}, 6, api.OK},
		"three behind, not in order":            {layout{points: []point.Point{at(1, 4, 0, 4, 0, 0)}, segs: ones(7, 4, 5, 6)}, []int{7, 4, 5, 6}, 8, api.OK},
		"all behind":                            {layout{points: []point.Point{at(1, 0, 0, 0, 0, 0)}, segs: ones(4, 3, 2, 1)}, []int{4, 3, 2, 1}, 5, api.OK},
		"a gap":                                 {layout{points: []point.Point{at(1, 4, 0, 4, 0, 0)}, segs: ones(7, 4, 5, 8)}, []int{0, 4, 5, 0}, 6, api.OK},
		"a gap at once":                         {layout{points: []point.Point{at(1, 4, 0, 4, 0, 0)}, segs: ones(7, 4, 6, 8)}, []int{0, 4, 0, 0}, 5, api.OK},
		"two alike behind, the lowest":          {layout{points: []point.Point{at(1, 4, 0, 4, 0, 0)}, segs: ones(0, 4, 5, 5)}, []int{0, 4, 5, 0}, 6, api.OK},
		"two alike behind, and one more":        {layout{points: []point.Point{at(1, 4, 0, 4, 0, 0)}, segs: ones(6, 4, 6, 5)}, []int{6, 4, 0, 5}, 7, api.OK},
		"three alike behind":                    {layout{points: []point.Point{at(1, 4, 0, 4, 0, 0)}, segs: ones(5, 4, 5, 5)}, []int{5, 4, 0, 0}, 6, api.OK},
		"a torn one behind":                     {layout{points: []point.Point{at(1, 4, 0, 4, 0, 0)}, segs: ones(0, 4, 0, 6), slots: map[int][]byte{2: torn}}, []int{0, 4, 0, 0}, 5, api.OK},
		"a torn one, and a whole one behind it": {layout{points: []point.Point{at(1, 4, 0, 4, 0, 0)}, segs: ones(0, 4, 0, 5), slots: map[int][]byte{2: torn}}, []int{0, 4, 0, 5}, 6, api.OK},
		"octets that are none":                  {layout{points: []point.Point{at(1, 4, 0, 4, 0, 0)}, segs: ones(0, 4, 0, 0), slots: map[int][]byte{0: text(1, sealedSize), 2: kind}}, []int{0, 4, 0, 0}, 5, api.OK},
		"the point of the other region":         {layout{points: []point.Point{at(2, 4, 0, 4, 0, 0), at(1, 2, 1, 2, 0, 0)}, segs: ones(5, 4, 3, 0)}, []int{5, 4, 0, 0}, 6, api.OK},
		"the newer point alone is asked":        {layout{points: []point.Point{at(2, 2, 1, 2, 0, 0), at(3, 4, 0, 4, 0, 0)}, segs: ones(5, 4, 3, 0)}, []int{5, 4, 0, 0}, 6, api.OK},
		"numbers of five octets":                {layout{points: []point.Point{at(1, 0x0102030406, 0, 0x0102030405, 0, 0xff00ff)}, segs: ones(0, 0x0102030405, 0x0102030407, 0xff00ff)}, []int{0, 0x0102030405, 0x0102030407, 0xff00ff}, 0x0102030408, api.OK},
		"the highest Next":                      {layout{points: []point.Point{at(1, highest-1, 0, highest-1, 0, 0)}, segs: ones(0, highest-1, 0, 0)}, []int{0, highest - 1, 0, 0}, highest, api.OK},
		"the highest Next, by one behind":       {layout{points: []point.Point{at(1, highest-2, 0, highest-2, 0, 0)}, segs: ones(0, highest-2, 0, highest-1)}, []int{0, highest - 2, 0, highest - 1}, highest, api.OK},
		"a Next too high":                       {layout{points: []point.Point{at(1, highest, 0, 0, 0, 0)}}, nil, 0, api.ErrCorrupt},
		"a Next too high, by one behind":        {layout{points: []point.Point{at(1, highest-1, 0, 3, 0, 0)}, segs: ones(0, 3, 0, highest)}, nil, 0, api.ErrCorrupt},
		"a Next too high, by two behind":        {layout{points: []point.Point{at(1, highest-2, 0, 3, 0, 0)}, segs: ones(highest-1, 3, 0, highest)}, nil, 0, api.ErrCorrupt},
		"no point":                              {layout{segs: ones(1, 2, 3, 4)}, nil, 0, api.ErrCorrupt},
		"data of three slots":                   {layout{points: []point.Point{at(1, 4, 0, 4, 0)}, segs: ones(0, 4, 0, 0)}, nil, 0, api.ErrCorrupt},
		"data of five slots":                    {layout{points: []point.Point{at(1, 4, 0, 4, 0, 0, 0)}, segs: ones(0, 4, 0, 0)}, nil, 0, api.ErrCorrupt},
		"data of 80 slots":                      {layout{points: []point.Point{at(1, 4, make([]int, 80)...)}}, nil, 0, api.ErrCorrupt},
		"no data":                               {layout{points: []point.Point{at(1, 4)}}, nil, 0, api.ErrCorrupt},
		"an octet too much":                     {layout{points: []point.Point{{Epoch: 1, Data: make([]byte, 21)}}}, nil, 0, api.ErrCorrupt},
		"an octet too few":                      {layout{points: []point.Point{{Epoch: 1, Data: make([]byte, 19)}}}, nil, 0, api.ErrCorrupt},
		"a Seq above the point's":               {layout{points: []point.Point{at(1, 4, 0, 5, 0, 0)}, segs: ones(0, 5, 0, 0)}, nil, 0, api.ErrCorrupt},
		"a Seq above, one behind":               {layout{points: []point.Point{at(1, 4, 0, 6, 0, 0)}, segs: ones(5, 6, 0, 0)}, nil, 0, api.ErrCorrupt},
		"a Seq above that is met on the way":    {layout{points: []point.Point{at(1, 4, 0, 5, 0, 0)}, segs: ones(5, 5, 6, 7)}, nil, 0, api.ErrCorrupt},
		"the highest Seq, above":                {layout{points: []point.Point{at(1, 4, 0, highest-1, 0, 0)}, segs: ones(0, highest-1, 0, 0)}, nil, 0, api.ErrCorrupt},
		"two alike":                             {layout{points: []point.Point{at(1, 4, 3, 0, 0, 3)}, segs: ones(3, 0, 0, 3)}, nil, 0, api.ErrCorrupt},
		"one named is not there":                {layout{points: []point.Point{at(1, 4, 3, 4, 0, 0)}, segs: ones(3, 0, 0, 0)}, nil, 0, api.ErrCorrupt},
		"one named is elsewhere":                {layout{points: []point.Point{at(1, 4, 3, 4, 0, 0)}, segs: ones(4, 3, 0, 0)}, nil, 0, api.ErrCorrupt},
		"one named has another number":          {layout{points: []point.Point{at(1, 4, 3, 4, 0, 0)}, segs: ones(2, 4, 0, 0)}, nil, 0, api.ErrCorrupt},
		"one named is a later one":              {layout{points: []point.Point{at(1, 4, 3, 4, 0, 0)}, segs: ones(5, 4, 0, 0)}, nil, 0, api.ErrCorrupt},
		"one named is torn":                     {layout{points: []point.Point{at(1, 5, 0, 0, 5, 0)}, slots: map[int][]byte{2: torn}}, nil, 0, api.ErrCorrupt},
		"one named is no segment":               {layout{points: []point.Point{at(1, 5, 0, 0, 5, 0)}, slots: map[int][]byte{2: kind}}, nil, 0, api.ErrCorrupt},
		"the last one named is not there":       {layout{points: []point.Point{at(1, 4, 1, 2, 3, 4)}, segs: ones(1, 2, 3, 0)}, nil, 0, api.ErrCorrupt},
		"the newer point is wrong":              {layout{points: []point.Point{at(2, 4, 4, 4, 4, 4), at(1, 0, 0, 0, 0, 0)}, segs: ones(1, 2, 3, 4)}, nil, 0, api.ErrCorrupt},
	} {
		d := diskWith(4, c.w)
		for _, d := range []disk.State{d, cached(d)} {
			got, err := store.Mount(d, 4)
			if err != c.err || !slices.Equal(seqs(got.Log), c.want) || got.Log.Next != c.next {
				t.Errorf("%s: Mount = %s, %d, want %v, %d", name, brief(got), err, c.want, c.err)
			}
			if err == api.OK && (slices.Contains(got.Log.Held, true) || len(got.Log.Open) > 0 || !sameDisk(got.Disk, d)) {
				t.Errorf("%s: Mount = %s", name, brief(got))
			}
			holdMount(t, name, d, 4)
		}
	}
}

// P18.3: a number of slots out of range, ahead of a disk that may not be, ahead of one of a wrong size, ahead of what stands on it.
func TestMountRefused(t *testing.T) {
	refuses := func(name string, d disk.State, n int, want api.Errno) {
		t.Helper()
		if got, err := store.Mount(d, n); err != want || !none(got) {
			t.Errorf("%s: Mount of %d slots = %s, %d, want %d", name, n, brief(got), err, want)
		}
	}
	right := diskWith(4, layout{points: []point.Point{at(1, 4, 2, 4, 1, 3)}, segs: ones(2, 4, 1, 3)})
	// By the lowest but four the size of a disk wraps round to the right one.
	for _, n := range []int{math.MinInt, math.MinInt + 4, -4, -1, 0, 65, 338, 1 << 32, 1<<32 + 4, math.MaxInt/6 + 1, math.MaxInt/3 + 5, math.MaxInt} {
		refuses("a right disk", right, n, api.ErrRange)
		for name, d := range parts().disks {
			refuses(name, d, n, api.ErrRange)
		}
	}
	for n := 1; n <= mostSlots; n++ {
		for name, d := range parts().disks {
			refuses(name, d, n, api.ErrState)
		}
		if n != 4 {
			refuses("a right disk of 4", right, n, api.ErrState)
		}
		for _, more := range []int{-1, 1} {
			d := diskWith(n, layout{points: []point.Point{at(1, 0, make([]int, n)...)}})
			d.Sectors = append(d.Sectors, make([]byte, sector))[:len(d.Sectors)+more]
			refuses("a sector more or fewer", d, n, api.ErrState)
		}
		refuses("zeros", diskWith(n, layout{}), n, api.ErrCorrupt)
		refuses("no point", diskOf(slotAt(n)/sector, 3), n, api.ErrCorrupt)
	}
	for _, size := range []int{1, 8, 15, 16, 17, 21} {
		refuses("few sectors", diskOf(size, 0), 1, api.ErrState)
	}
}

// anyDisk is a disk by chance on which much is as it should be.
func anyDisk(chance *rand.Rand, n int) disk.State {
	last := chance.Intn(2 * n)
	if chance.Intn(20) == 0 {
		last = highest - chance.Intn(n+1)
	}
	var w layout
	named := make([]int, n)
	order := chance.Perm(2 * n)
	for slot := range n {
		// Numbers up to n behind the last one of the point.
		seq := last - n + 1 + order[slot]
		if chance.Intn(12) == 0 {
			seq = last + 1 + chance.Intn(2)
		}
		if seq < 1 || seq > highest || chance.Intn(5) == 0 {
			w.segs = append(w.segs, segment.Seg{})
			continue
		}
		w.segs = append(w.segs, one(seq))
		if seq <= last && chance.Intn(3) > 0 || chance.Intn(150) == 0 {
			named[slot] = seq
		}
		if chance.Intn(150) == 0 {
			named[slot] += chance.Intn(3) - 1
		}
	}
	if chance.Intn(30) == 0 {
		named = make([]int, chance.Intn(n+3))
	}
	epoch := 1 + chance.Intn(4)
	w.points = []point.Point{at(epoch, last, named...), at(epoch-1, chance.Intn(last+1), named...)}[:1+chance.Intn(2)]
	return diskWith(n, w)
}

// P18.3, P18.5, P18.7: mounts of disks by chance, some of their octets spoilt, some of them in the cache.
func TestMountByChance(t *testing.T) {
	chance := rand.New(rand.NewSource(183))
	met := map[api.Errno]int{}
	for range 6000 {
		n := 1 + chance.Intn(7)
		if chance.Intn(60) == 0 {
			n = mostSlots
		}
		d := anyDisk(chance, n)
		for range chance.Intn(3) * chance.Intn(2) {
			d.Sectors[chance.Intn(len(d.Sectors))][chance.Intn(sector)] ^= byte(1 << chance.Intn(8))
		}
		for i := range d.Sectors {
			if chance.Intn(10) == 0 {
				d.Cache = append(d.Cache, disk.Write{Sector: i, Data: d.Sectors[i]})
				d.Sectors[i] = text(i, sector)
			}
		}
		if chance.Intn(30) == 0 {
			n += chance.Intn(3) - 1
		}
		met[holdMount(t, "by chance", d, n)]++
	}
	if met[api.OK] < 1500 || met[api.ErrCorrupt] < 500 || met[api.ErrState] < 50 || met[api.ErrRange] < 1 {
		t.Errorf("met %v", met)
	}
}
