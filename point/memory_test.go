package point_test

import (
	"bytes"
	"reflect"
	"runtime"
	"slices"
	"testing"
	"unsafe"

	"undercroft/api"
	"undercroft/disk"
	"undercroft/point"
)

// held is all that was handed in or answered, and where it lies. Nothing of it is given back while it is looked at: memory that nobody holds comes back in later answers.
type held struct {
	all   []any
	spans [][2]uintptr
}

// add takes note of where a list lies, with the room behind it.
func add[T any](h *held, list []T) {
	from := uintptr(unsafe.Pointer(unsafe.SliceData(list)))
	h.all = append(h.all, list)
	h.spans = append(h.spans, [2]uintptr{from, from + uintptr(cap(list))*unsafe.Sizeof(*new(T))})
}

func (h *held) addDisk(d disk.State) {
	add(h, d.Sectors)
	for _, b := range d.Sectors {
		add(h, b)
	}
	add(h, d.Cache)
	for _, w := range d.Cache {
		add(h, w.Data)
	}
}

// apart tells whether no two of what is held overlap.
func (h *held) apart() bool {
	list := slices.DeleteFunc(slices.Clone(h.spans), func(s [2]uintptr) bool { return s[0] == s[1] })
	slices.SortFunc(list, func(a, b [2]uintptr) int { return slices.Compare(a[:], b[:]) })
	for i := range list {
		if i > 0 && list[i][0] < list[i-1][1] {
			return false
		}
	}
	runtime.KeepAlive(h.all)
	return true
}

// behind is l with room behind it, in which x stands.
func behind[T any](l []T, x T) []T {
	return append(slices.Clip(slices.Clone(l)), x, x, x)[:len(l)]
}

// roomy is p with room behind its data, in which something stands.
func roomy(p point.Point) point.Point {
	p.Data = behind(p.Data, 99)
	return p
}

// roomyDisk is d with room behind each of its lists, in which something stands.
func roomyDisk(d disk.State) disk.State {
	d.Sectors, d.Cache = slices.Clone(d.Sectors), slices.Clone(d.Cache)
	for i, b := range d.Sectors {
		d.Sectors[i] = behind(b, 99)
	}
	for i, w := range d.Cache {
		d.Cache[i].Data = behind(w.Data, 99)
	}
	d.Sectors = behind(d.Sectors, text(1, sector))
	d.Cache = behind(d.Cache, disk.Write{Sector: 3, Data: text(2, sector)})
	return d
}

// allOf is d with all that stands in the room behind its lists.
func allOf(d disk.State) disk.State {
	d.Sectors, d.Cache = slices.Clone(d.Sectors[:cap(d.Sectors)]), slices.Clone(d.Cache[:cap(d.Cache)])
	for i, b := range d.Sectors {
		d.Sectors[i] = slices.Clone(b[:cap(b)])
	}
	for i, w := range d.Cache {
		d.Cache[i].Data = slices.Clone(w.Data[:cap(w.Data)])
	}
	return d
}

// wipe writes over all that lies in d.
func wipe(d disk.State) {
	for _, b := range d.Sectors {
		clear(b)
	}
	clear(d.Sectors)
	for _, w := range d.Cache {
		clear(w.Data)
	}
	clear(d.Cache)
}

// rightDisks holds disks that points may be stored on, with points on them, in their sectors and their caches.
func rightDisks() map[string]disk.State {
	both := regionsOf(16, form(made(4, longest)), form(made(5, 30)))
	return map[string]disk.State{
		"no point":           diskOf(18, 0, 3, 17),
		"a point":            regionsOf(16, form(made(4, 60)), text(1, whole)),
		"two points":         both,
		"one in the cache":   cached(both, 0, form(made(6, 9))),
		"one torn":           cached(both, turn, form(made(7, longest))[:5*sector]),
		"both in the cache":  cached(cached(diskOf(20), 0, form(made(6, 9))), turn, form(made(7, 200))),
		"no octets in any":   regionsOf(16, form(made(4, 0)), form(made(5, 0))),
		"room for one alone": busy(16, 4096-8),
	}
}

// manyDisks holds disks that may be, and some that are refused.
func manyDisks() map[string]disk.State {
	all := rightDisks()
	for name, d := range wrongDisks() {
		all[name] = d
	}
	all["few sectors"] = diskOf(15, 1, 2)
	all["no room"] = busy(16, 4096)
	return all
}

// P17.5: points and octets that are handed in are not changed, nor the room behind them.
func TestArgumentsStay(t *testing.T) {
	points := wrongPoints()
	for _, p := range rightPoints() {
		points = append(points, wrongPoint{p: p})
	}
	d := regionsOf(16, form(made(4, 60)), form(made(5, 30)))
	for _, c := range points {
		p := roomy(c.p)
		before := slices.Clone(p.Data[:cap(p.Data)])
		point.Check(p)
		point.Encode(p)
		point.Store(d, p)
		if !bytes.Equal(p.Data[:cap(p.Data)], before) {
			t.Errorf("the data of %v has changed", nums(p))
		}
	}
	octets := [][]byte{nil, make([]byte, whole), form(made(3, longest)), form(made(3, 2))[:whole-1]}
	for _, c := range misfits() {
		octets = append(octets, c.octets)
	}
	for _, b := range octets {
		b = behind(b, 99)
		before := slices.Clone(b[:cap(b)])
		point.Decode(b)
		if !bytes.Equal(b[:cap(b)], before) {
			t.Errorf("the octets %x have changed", b)
		}
	}
}

// P17.5: disks that are handed in are not changed, nor the room behind their lists.
func TestDisksStay(t *testing.T) {
	for name, d := range manyDisks() {
		d = roomyDisk(d)
		before := allOf(d)
		point.Store(d, made(6, 40))
		point.Store(d, made(7, longest))
		point.Store(d, made(7, 401))
		point.Load(d)
		if !reflect.DeepEqual(allOf(d), before) {
			t.Errorf("%s: the disk has changed", name)
		}
	}
}

// P17.5: answers share no memory with arguments, with each other, nor within one.
func TestAnswersApart(t *testing.T) {
	h := &held{}
	for _, p := range rightPoints() {
		p, b := roomy(p), behind(form(p), 99)
		add(h, p.Data)
		add(h, b)
		for range 2 {
			laid, _ := point.Encode(p)
			add(h, laid)
			got, _ := point.Decode(b)
			add(h, got.Data)
		}
	}
	if !h.apart() {
		t.Fatal("an answer shares memory")
	}
	for name, d := range rightDisks() {
		h, p := &held{}, roomy(made(6, 200))
		d := roomyDisk(d)
		h.addDisk(d)
		add(h, p.Data)
		for range 2 {
			stored, err := point.Store(d, p)
			if err != api.OK {
				t.Fatalf("%s: Store = %d", name, err)
			}
			h.addDisk(stored)
			for _, one := range []disk.State{d, stored} {
				got, _ := point.Load(one)
				add(h, got.Data)
			}
		}
		if !h.apart() {
			t.Fatalf("%s: an answer shares memory", name)
		}
	}
}

// P17.5: lists of one argument that share memory, with each other and with the point, do not make answers that do.
func TestSharedLists(t *testing.T) {
	b := text(5, sector)
	d := disk.State{Sectors: slices.Repeat([][]byte{b}, 17), Cache: slices.Repeat([]disk.Write{{Sector: 16, Data: b}}, 3)}
	p := point.Point{Epoch: 3, Data: b[3:40]}
	h := &held{}
	add(h, b)
	add(h, d.Sectors)
	add(h, d.Cache)
	stored := holdStore(t, "shared", d, p)
	h.addDisk(stored)
	got, err := point.Load(stored)
	add(h, got.Data)
	if err != api.OK || !same(got, p) {
		t.Fatalf("Load = %v, %d", got, err)
	}
	if !h.apart() {
		t.Error("an answer shares memory")
	}
}

// P17.5 and P3: writing over what was handed in, or over one answer, changes no other one; the same call answers the same again.
func TestAnswersStay(t *testing.T) {
	for name, want := range rightPoints() {
		p, b := roomy(want), form(want)
		firstLaid, _ := point.Encode(p)
		secondLaid, _ := point.Encode(p)
		first, _ := point.Decode(b)
		second, _ := point.Decode(b)
		clear(p.Data)
		clear(b)
		clear(firstLaid)
		clear(first.Data)
		if !bytes.Equal(secondLaid, form(want)) || !same(second, want) {
			t.Errorf("%s: an answer has changed", name)
		}
	}
	for name, d := range rightDisks() {
		want, wantErr := loaded(d)
		d, p := roomyDisk(d), roomy(made(8, 50))
		first, _ := point.Load(d)
		second, err := point.Load(d)
		firstStored, _ := point.Store(d, p)
		secondStored, _ := point.Store(d, p)
		before := allOf(secondStored)
		wipe(d)
		wipe(firstStored)
		clear(first.Data)
		clear(p.Data)
		if !same(second, want) || err != wantErr || !reflect.DeepEqual(allOf(secondStored), before) {
			t.Errorf("%s: an answer has changed", name)
		}
		if got, err := point.Load(secondStored); err != api.OK || !same(got, made(8, 50)) {
			t.Errorf("%s: Load of what was stored = %v, %d", name, got, err)
		}
	}
}

// P1: nil and empty lists are one.
func TestNilAndEmpty(t *testing.T) {
	bare, empty := point.Point{Epoch: 4}, point.Point{Epoch: 4, Data: []byte{}}
	first, err := point.Encode(bare)
	second, emptyErr := point.Encode(empty)
	if err != api.OK || emptyErr != api.OK || !bytes.Equal(first, second) {
		t.Error("Encode tells them apart")
	}
	d, e := diskOf(16), diskOf(16)
	e.Cache = []disk.Write{}
	one, err := point.Store(d, bare)
	other, emptyErr := point.Store(e, empty)
	if err != api.OK || emptyErr != api.OK || !bytes.Equal(flushed(one), flushed(other)) {
		t.Error("Store tells them apart")
	}
}
