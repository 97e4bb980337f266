package point_test

import (
	"bytes"
	"math/rand"
	"slices"
	"strconv"
	"testing"

	"undercroft/api"
	"undercroft/disk"
	"undercroft/point"
)

// diskOf is a disk of n sectors, each of octets of its own, with the writes of those sectors in its cache.
func diskOf(n int, sectors ...int) disk.State {
	var d disk.State
	for i := range n {
		d.Sectors = append(d.Sectors, text(i, sector))
	}
	for i, at := range sectors {
		d.Cache = append(d.Cache, disk.Write{Sector: at, Data: text(100+i, sector)})
	}
	return d
}

// regionsOf is a disk of n sectors, in whose regions those octets stand.
func regionsOf(n int, first, second []byte) disk.State {
	d := diskOf(n)
	for i := range turn {
		copy(d.Sectors[i], first[i*sector:])
		copy(d.Sectors[turn+i], second[i*sector:])
	}
	return d
}

// cached is d with a write in its cache for each sector that those octets need.
func cached(d disk.State, at int, b []byte) disk.State {
	d.Cache = slices.Clone(d.Cache)
	for piece := range slices.Chunk(b, sector) {
		d.Cache = append(d.Cache, disk.Write{Sector: at, Data: slices.Clone(piece)})
		at++
	}
	return d
}

// busy is a disk of n sectors whose cache has so many writes.
func busy(n, writes int) disk.State {
	d := diskOf(n)
	for i := range writes {
		d.Cache = append(d.Cache, disk.Write{Sector: i * 7 % n, Data: text(i, sector)})
	}
	return d
}

// flushed is a disk's octets when all its writes are there, by a plain reading of the chapter.
func flushed(d disk.State) []byte {
	all := slices.Concat(d.Sectors...)
	for _, w := range d.Cache {
		copy(all[w.Sector*sector:], w.Data)
	}
	return all
}

// regionAt is the first sector of the region of that epoch.
func regionAt(epoch int) int {
	return epoch % 2 * turn
}

// loaded is what Load answers, by a plain reading of the chapter, of a disk that may be and is not short.
func loaded(d disk.State) (point.Point, api.Errno) {
	all := flushed(d)
	first, firstErr := decoded(all[:whole])
	second, secondErr := decoded(all[whole : 2*whole])
	switch {
	case firstErr != api.OK && secondErr != api.OK:
		return point.Point{}, api.ErrCorrupt
	case firstErr != api.OK:
		return second, api.OK
	case secondErr != api.OK || first.Epoch >= second.Epoch:
		return first, api.OK
	}
	return second, api.OK
}

// holdLoad holds what Load answers to the plain reading.
func holdLoad(t *testing.T, name string, d disk.State) {
	t.Helper()
	want, wantErr := loaded(d)
	if got, err := point.Load(d); err != wantErr || !same(got, want) {
		t.Fatalf("%s: Load = %v, %d, want %v, %d", name, got, err, want, wantErr)
	}
}

// holdStore holds a disk that Store answers to the plain reading.
func holdStore(t *testing.T, name string, d disk.State, p point.Point) disk.State {
	t.Helper()
	want := flushed(d)
	copy(want[regionAt(p.Epoch)*sector:], form(p))
	got, err := point.Store(d, p)
	if err != api.OK || len(got.Cache) != 0 || len(got.Sectors) != len(d.Sectors) || !bytes.Equal(slices.Concat(got.Sectors...), want) {
		t.Fatalf("%s: Store = %v, %d, want %x", name, got, err, want)
	}
	if err := disk.Check(got); err != api.OK {
		t.Fatalf("%s: Check of what Store answers = %d", name, err)
	}
	holdLoad(t, name, got)
	return got
}

func isNoDisk(d disk.State) bool {
	return len(d.Sectors) == 0 && len(d.Cache) == 0
}

// P17.2: the chapter's example, and some turns more.
func TestTurns(t *testing.T) {
	d, _ := disk.New(16)
	if p, err := point.Load(d); err != api.ErrCorrupt || !isNone(p) {
		t.Errorf("Load of zeros = %v, %d", p, err)
	}
	for epoch := 1; epoch < 9; epoch++ {
		p := made(epoch, epoch*50)
		d = holdStore(t, "epoch "+strconv.Itoa(epoch), d, p)
		if got, err := point.Load(d); err != api.OK || !same(got, p) {
			t.Errorf("Load behind epoch %d = %v, %d", epoch, got, err)
		}
		if b, _ := disk.GetAll(d, epoch%2*8, 8); !bytes.Equal(b, form(p)) {
			t.Errorf("epoch %d does not stand in its region", epoch)
		}
		if b, _ := disk.GetAll(d, (epoch+1)%2*8, 8); epoch > 1 && !bytes.Equal(b, form(made(epoch-1, (epoch-1)*50))) {
			t.Errorf("epoch %d changed the other region", epoch)
		}
	}
}

// P17.2: points that may be, into disks of all kinds.
func TestStore(t *testing.T) {
	for diskName, d := range map[string]disk.State{
		"16 sectors":           diskOf(16),
		"17 sectors":           diskOf(17),
		"40 sectors":           diskOf(40),
		"all sectors":          diskOf(2048),
		"writes in the way":    diskOf(20, 0, 7, 8, 15, 16, 19, 8, 0),
		"as many as there fit": busy(30, 4096-8),
		"one less":             busy(16, 4096-9),
		"points in both":       regionsOf(16, form(made(6, 9)), form(made(7, 100))),
		"a point in the cache": cached(regionsOf(18, form(made(6, 9)), form(made(7, 100))), 0, form(made(8, 3))),
	} {
		for name, p := range rightPoints() {
			holdStore(t, diskName+", "+name, d, p)
		}
	}
}

// P17.2: what is stored goes behind all that was put ahead, also in its own region.
func TestStoreLast(t *testing.T) {
	for epoch := 4; epoch < 6; epoch++ {
		d := cached(diskOf(16), regionAt(epoch), form(made(epoch+2, 9)))
		got := holdStore(t, "epoch "+strconv.Itoa(epoch), d, made(epoch, 30))
		if p, err := point.Load(got); err != api.OK || !same(p, made(epoch, 30)) {
			t.Errorf("Load = %v, %d", p, err)
		}
	}
}

// wrongDisks holds disks that may not be.
func wrongDisks() map[string]disk.State {
	cut := func(d disk.State, at, n int) disk.State {
		d.Sectors[at] = d.Sectors[at][:n]
		return d
	}
	spoiled := func(d disk.State, w disk.Write) disk.State {
		d.Cache = append(d.Cache, w)
		return d
	}
	return map[string]disk.State{
		"no sectors":            {},
		"empty lists":           {Sectors: [][]byte{}, Cache: []disk.Write{}},
		"too many sectors":      diskOf(2049),
		"too many writes":       busy(16, 4097),
		"a short sector":        cut(diskOf(16), 15, 63),
		"an empty sector":       cut(diskOf(20), 19, 0),
		"nil sectors":           {Sectors: make([][]byte, 16)},
		"a long sector":         {Sectors: append(diskOf(15).Sectors, make([]byte, 65))},
		"a write below 0":       spoiled(diskOf(16), disk.Write{Sector: -1, Data: text(1, sector)}),
		"a write beyond":        spoiled(diskOf(16), disk.Write{Sector: 16, Data: text(1, sector)}),
		"a short write":         spoiled(diskOf(16), disk.Write{Sector: 1, Data: text(1, 63)}),
		"a write of none":       spoiled(diskOf(16), disk.Write{Sector: 1}),
		"short, and few":        cut(diskOf(3), 1, 63),
		"a write of few beyond": spoiled(diskOf(3), disk.Write{Sector: 3, Data: text(1, sector)}),
	}
}

// storeRefuses tells whether Store answers that error, and nothing beside it.
func storeRefuses(t *testing.T, name string, d disk.State, p point.Point, want api.Errno) {
	t.Helper()
	if got, err := point.Store(d, p); err != want || !isNoDisk(got) {
		t.Errorf("%s: Store of %v = %d sectors, %d, want %d", name, nums(p), len(got.Sectors), err, want)
	}
}

// loadRefuses tells whether Load answers that error, and nothing beside it.
func loadRefuses(t *testing.T, name string, d disk.State, want api.Errno) {
	t.Helper()
	if p, err := point.Load(d); err != want || !isNone(p) {
		t.Errorf("%s: Load = %v, %d, want %d", name, p, err, want)
	}
}

// P17.2: a disk that may not be, ahead of all else.
func TestWrongDisk(t *testing.T) {
	for name, d := range wrongDisks() {
		storeRefuses(t, name, d, made(1, 5), api.ErrState)
		storeRefuses(t, name, d, point.Point{Epoch: -1}, api.ErrState)
		storeRefuses(t, name, d, made(1, 401), api.ErrState)
		loadRefuses(t, name, d, api.ErrState)
	}
}

// P17.2: fewer than 16 sectors, ahead of what is wrong with the point, and of a cache that is full.
func TestFewSectors(t *testing.T) {
	for n := 1; n < 16; n++ {
		name := strconv.Itoa(n) + " sectors"
		for _, d := range []disk.State{diskOf(n), busy(n, 4096)} {
			storeRefuses(t, name, d, made(1, 5), api.ErrSector)
			storeRefuses(t, name, d, made(2, 5), api.ErrSector)
			storeRefuses(t, name, d, point.Point{View: -1}, api.ErrSector)
			storeRefuses(t, name, d, made(2, 401), api.ErrSector)
			loadRefuses(t, name, d, api.ErrSector)
		}
	}
	// A region that is there and whole does not help.
	whole := regionsOf(16, form(made(2, 5)), form(made(3, 5)))
	whole.Sectors = whole.Sectors[:15]
	loadRefuses(t, "one region alone", whole, api.ErrSector)
	storeRefuses(t, "one region alone", whole, made(4, 5), api.ErrSector)
}

// P17.2: what is wrong with the point, ahead of a cache that is full; and that.
func TestStoreRefused(t *testing.T) {
	full := busy(16, 4096)
	for _, d := range []disk.State{diskOf(16), full, diskOf(30, 0, 8, 16)} {
		for _, c := range wrongPoints() {
			storeRefuses(t, "a wrong point", d, c.p, c.want)
		}
	}
	for name, p := range rightPoints() {
		storeRefuses(t, name+", no room", full, p, api.ErrFull)
	}
	for writes := 4096 - 7; writes <= 4096; writes++ {
		storeRefuses(t, "room for fewer than eight", busy(20, writes), made(3, 5), api.ErrFull)
		storeRefuses(t, "room for fewer than eight", busy(20, writes), made(4, 400), api.ErrFull)
	}
}

// P17.2: which of both regions counts.
func TestLoad(t *testing.T) {
	zeros, ones := make([]byte, whole), bytes.Repeat([]byte{255}, whole)
	torn := form(made(90, 100))
	torn[70] ^= 4
	tail := form(made(90, 100))
	tail[whole-1] = 1
	other := laid(record(6, []int{90, 1, 1, 1}, nil))
	few := laid(record(7, []int{90, 1, 1}, nil))
	high := laid(record(7, []int{highest + 1, 1, 1, 1}, nil))
	for name, c := range map[string]struct {
		first, second []byte
		want          point.Point
		err           api.Errno
	}{
		"the first alone":              {form(made(4, 9)), zeros, made(4, 9), api.OK},
		"the second alone":             {zeros, form(made(5, 9)), made(5, 9), api.OK},
		"the second is newer":          {form(made(4, 9)), form(made(5, 60)), made(5, 60), api.OK},
		"the first is newer":           {form(made(6, 9)), form(made(5, 60)), made(6, 9), api.OK},
		"the first is newer by many":   {form(made(highest, 9)), form(made(5, 60)), made(highest, 9), api.OK},
		"the second is newer by many":  {form(made(0, 9)), form(made(highest-1, 60)), made(highest-1, 60), api.OK},
		"alike, the first":             {form(made(6, 9)), form(made(6, 60)), made(6, 9), api.OK},
		"alike, the first, turned":     {form(made(6, 60)), form(made(6, 9)), made(6, 60), api.OK},
		"alike, another has more":      {form(point.Point{Epoch: 6, Seq: 1}), form(point.Point{Epoch: 6, Seq: 2, View: 9, Commit: 9}), point.Point{Epoch: 6, Seq: 1}, api.OK},
		"no epoch, the first":          {form(point.Point{Seq: 1}), form(point.Point{Seq: 2}), point.Point{Seq: 1}, api.OK},
		"no epoch, the second alone":   {zeros, form(point.Point{Seq: 2}), point.Point{Seq: 2}, api.OK},
		"no epoch, all zero":           {zeros, form(point.Point{}), point.Point{}, api.OK},
		"by Epoch, not by the rest":    {form(point.Point{Epoch: 2, Seq: 99, View: 99, Commit: 99}), form(point.Point{Epoch: 3}), point.Point{Epoch: 3}, api.OK},
		"in the region of the other":   {form(made(5, 9)), form(made(4, 60)), made(5, 9), api.OK},
		"in the region of the other 2": {form(made(5, 9)), form(made(8, 60)), made(8, 60), api.OK},
		"the newer is torn":            {torn, form(made(5, 60)), made(5, 60), api.OK},
		"the newer is torn, turned":    {form(made(4, 60)), torn, made(4, 60), api.OK},
		"the newer has a tail":         {tail, form(made(5, 60)), made(5, 60), api.OK},
		"the newer is no point":        {form(made(4, 60)), other, made(4, 60), api.OK},
		"the newer has few numbers":    {few, form(made(5, 60)), made(5, 60), api.OK},
		"the newer is too high":        {form(made(4, 60)), high, made(4, 60), api.OK},
		"zeros":                        {zeros, zeros, point.Point{}, api.ErrCorrupt},
		"ones":                         {ones, ones, point.Point{}, api.ErrCorrupt},
		"torn both":                    {torn, torn, point.Point{}, api.ErrCorrupt},
		"each has a fault of its own":  {tail, high, point.Point{}, api.ErrCorrupt},
		"no points":                    {other, few, point.Point{}, api.ErrCorrupt},
	} {
		onDisk := regionsOf(16, c.first, c.second)
		inCache := cached(cached(regionsOf(20, tail, torn), turn, c.second), 0, c.first)
		half := cached(regionsOf(2048, c.first, form(made(99, 3))), turn, c.second)
		for _, d := range []disk.State{onDisk, inCache, half} {
			if p, err := point.Load(d); err != c.err || !same(p, c.want) {
				t.Errorf("%s: Load = %v, %d, want %v, %d", name, p, err, c.want, c.err)
			}
		}
	}
}

// P17.2: a point that stands elsewhere than in a region is none.
func TestLoadElsewhere(t *testing.T) {
	b := form(made(9, 40))
	for at := range 40 - turn {
		d, _ := disk.New(40)
		d, _ = disk.PutAll(d, at, b)
		want, wantErr := made(9, 40), api.OK
		if at != 0 && at != turn {
			want, wantErr = point.Point{}, api.ErrCorrupt
		}
		if p, err := point.Load(d); err != wantErr || !same(p, want) {
			t.Errorf("a point at sector %d: Load = %v, %d", at, p, err)
		}
	}
}

// P17.2: Load of regions by chance.
func TestLoadByChance(t *testing.T) {
	chance := rand.New(rand.NewSource(174))
	region := func() []byte {
		if chance.Intn(3) == 0 {
			return spoilt(chance)
		}
		return form(made(chance.Intn(4), chance.Intn(90)))
	}
	for range 4000 {
		d := regionsOf(16+chance.Intn(3), region(), region())
		if chance.Intn(2) == 0 {
			d = cached(d, chance.Intn(2)*turn, region()[:sector*(1+chance.Intn(turn))])
		}
		holdLoad(t, "by chance", d)
	}
}
