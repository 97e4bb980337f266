package store_test

import (
	"math"
	"reflect"
	"runtime"
	"slices"
	"strconv"
	"testing"
	"unsafe"

	"undercroft/api"
	"undercroft/disk"
	"undercroft/log"
	"undercroft/point"
	"undercroft/segment"
	"undercroft/store"
)

// held is all that was handed in or answered, and where it lies. Nothing of it is given back while it is looked at: memory that nobody holds comes back in later answers.
type held struct {
	all   []any
	spans [][2]uintptr
}

// add takes note of where a list lies, with the room behind it.
func add[T any](h *held, list []T) {
	from := uintptr(unsafe.Pointer(unsafe.SliceData(list)))
	h.all = append(h.all, list)
	h.spans = append(h.spans, [2]uintptr{from, from + uintptr(cap(list))*unsafe.Sizeof(*new(T))})
}

func (h *held) addBlocks(l []segment.Block) {
	add(h, l)
	for _, b := range l {
		add(h, b.Data)
	}
}

func (h *held) addDisk(d disk.State) {
	add(h, d.Sectors)
	for _, b := range d.Sectors {
		add(h, b)
	}
	add(h, d.Cache)
	for _, w := range d.Cache {
		add(h, w.Data)
	}
}

func (h *held) addState(s store.State) {
	h.addDisk(s.Disk)
	add(h, s.Log.Segs)
	for _, g := range s.Log.Segs {
		h.addBlocks(g.Blocks)
	}
	add(h, s.Log.Held)
	h.addBlocks(s.Log.Open)
	add(h, s.Point.Data)
}

// apart tells whether no two of what is held overlap.
func (h *held) apart() bool {
	list := slices.DeleteFunc(slices.Clone(h.spans), func(s [2]uintptr) bool { return s[0] == s[1] })
	slices.SortFunc(list, func(a, b [2]uintptr) int { return slices.Compare(a[:], b[:]) })
	for i := range list {
		if i > 0 && list[i][0] < list[i-1][1] {
			return false
		}
	}
	runtime.KeepAlive(h.all)
	return true
}

// behind is l with room behind it, in which x stands.
func behind[T any](l []T, x T) []T {
	return append(slices.Clip(slices.Clone(l)), x, x, x)[:len(l)]
}

func roomyBlocks(l []segment.Block) []segment.Block {
	l = slices.Clone(l)
	for i := range l {
		l[i].Data = behind(l[i].Data, 99)
	}
	return behind(l, block(77, 7, "room"))
}

func roomyLog(l log.State) log.State {
	l.Segs = slices.Clone(l.Segs)
	for i, g := range l.Segs {
		l.Segs[i].Blocks = roomyBlocks(g.Blocks)
	}
	l.Segs = behind(l.Segs, seg(4999, block(77, 7, "room")))
	l.Held = behind(l.Held, true)
	l.Open = roomyBlocks(l.Open)
	return l
}

func roomyDisk(d disk.State) disk.State {
	d.Sectors, d.Cache = slices.Clone(d.Sectors), slices.Clone(d.Cache)
	for i, b := range d.Sectors {
		d.Sectors[i] = behind(b, 99)
	}
	for i, w := range d.Cache {
		d.Cache[i].Data = behind(w.Data, 99)
	}
	d.Sectors = behind(d.Sectors, text(1, sector))
	d.Cache = behind(d.Cache, disk.Write{Sector: 3, Data: text(2, sector)})
	return d
}

// roomy is s with room behind each of its lists, in which something stands.
func roomy(s store.State) store.State {
	s.Disk, s.Log = roomyDisk(s.Disk), roomyLog(s.Log)
	s.Point.Data = behind(s.Point.Data, 99)
	return s
}

func allOfBlocks(l []segment.Block) []segment.Block {
	l = slices.Clone(l[:cap(l)])
	for i, b := range l {
		l[i].Data = slices.Clone(b.Data[:cap(b.Data)])
	}
	return l
}

func allOfDisk(d disk.State) disk.State {
	d.Sectors, d.Cache = slices.Clone(d.Sectors[:cap(d.Sectors)]), slices.Clone(d.Cache[:cap(d.Cache)])
	for i, b := range d.Sectors {
		d.Sectors[i] = slices.Clone(b[:cap(b)])
	}
	for i, w := range d.Cache {
		d.Cache[i].Data = slices.Clone(w.Data[:cap(w.Data)])
	}
	return d
}

// allOf is s with all that stands in the room behind its lists.
func allOf(s store.State) store.State {
	s.Disk = allOfDisk(s.Disk)
	s.Log.Segs = slices.Clone(s.Log.Segs[:cap(s.Log.Segs)])
	for i, g := range s.Log.Segs {
		s.Log.Segs[i].Blocks = allOfBlocks(g.Blocks)
	}
	s.Log.Held = slices.Clone(s.Log.Held[:cap(s.Log.Held)])
	s.Log.Open = allOfBlocks(s.Log.Open)
	s.Point.Data = slices.Clone(s.Point.Data[:cap(s.Point.Data)])
	return s
}

func wipeBlocks(l []segment.Block) {
	for _, b := range l {
		clear(b.Data)
	}
	clear(l)
}

func wipeDisk(d disk.State) {
	for _, b := range d.Sectors {
		clear(b)
	}
	clear(d.Sectors)
	for _, w := range d.Cache {
		clear(w.Data)
	}
	clear(d.Cache)
}

// wipe writes over all that lies in s.
func wipe(s store.State) {
	wipeDisk(s.Disk)
	for _, g := range s.Log.Segs {
		wipeBlocks(g.Blocks)
	}
	clear(s.Log.Segs)
	for i := range s.Log.Held {
		s.Log.Held[i] = !s.Log.Held[i]
	}
	wipeBlocks(s.Log.Open)
	clear(s.Point.Data)
}

// made is what all calls make of s: some of them may be refused.
func made(s store.State, b segment.Block) []store.State {
	put, _ := store.Put(s, b)
	synced, _ := store.Sync(s)
	noted, _ := store.Checkpoint(s, 3, 4)
	cleaned, _, _ := store.Clean(s)
	mounted, _ := store.Mount(s.Disk, len(s.Log.Segs))
	return []store.State{put, synced, noted, cleaned, mounted}
}

// manyStates holds stores of few slots that may be, and some that a mount takes, of all slots, too.
func manyStates(t *testing.T) map[string]store.State {
	all := map[string]store.State{}
	for name, l := range rightLogs() {
		if len(l.Segs) < mostSlots {
			all[name] = on(l, 3)
			all[name+", none flushed"] = on(l, 30)
		}
	}
	do := must(t)
	for _, n := range []int{1, 4, mostSlots} {
		slots := ", " + strconv.Itoa(n) + " slots"
		s := do(store.Format(n))
		all["new"+slots] = s
		s = do(store.Sync(do(store.Put(s, block(1, 0, "a")))))
		s = do(store.Put(s, block(1, 0, "b")))
		all["one open"+slots] = s
		if n > 1 {
			s = do(store.Checkpoint(s, 7, 8))
			all["two in use"+slots] = s
			s = do(store.Sync(do(store.Put(s, block(2, 0, "c")))))
			s.Disk = cached(s.Disk)
			all["all in the cache"+slots] = s
		}
	}
	return all
}

// P18.8: what is handed in is not changed, nor the room behind it.
func TestArgumentsStay(t *testing.T) {
	all := manyStates(t)
	for name, s := range wrongStates() {
		if len(s.Log.Segs) <= mostSlots+1 && len(s.Disk.Cache) <= mostWrites {
			all[name] = s
		}
	}
	for name, s := range all {
		s = roomy(s)
		before := allOf(s)
		for _, b := range triedBlocks() {
			b.Data = behind(b.Data, 99)
			data := slices.Clone(b.Data[:cap(b.Data)])
			store.Put(s, b)
			if !slices.Equal(b.Data[:cap(b.Data)], data) {
				t.Errorf("%s: a block that was handed in has changed", name)
			}
		}
		made(s, block(1, 0, "x"))
		store.Checkpoint(s, -1, 0)
		store.Mount(s.Disk, math.MaxInt)
		if !reflect.DeepEqual(allOf(s), before) {
			t.Errorf("%s: what was handed in has changed", name)
		}
	}
}

// P18.8: answers share no memory with arguments, with each other, nor within one.
func TestAnswersApart(t *testing.T) {
	for name, s := range manyStates(t) {
		h := &held{}
		s, b := roomy(s), block(5, 5, "apart")
		h.addState(s)
		add(h, b.Data)
		for range 2 {
			for _, got := range made(s, b) {
				h.addState(got)
			}
		}
		if !h.apart() {
			t.Fatalf("%s: an answer shares memory", name)
		}
	}
	h := &held{}
	for range 2 {
		s, _ := store.Format(3)
		h.addState(s)
	}
	if !h.apart() {
		t.Error("an answer of Format shares memory")
	}
}

// P18.8: lists of one argument that share memory do not make answers that do.
func TestSharedLists(t *testing.T) {
	data := text(5, sector)
	b := segment.Block{Owner: 1, Data: data[3:9]}
	blocks := []segment.Block{b, {Owner: 1, Index: 1, Data: data[:longest]}, {Owner: 2, Data: data[:longest]}}
	l := opened(of(9, seg(2, blocks...), seg(3, blocks...), seg(0), seg(0)), blocks...)
	s := store.State{
		Disk:  disk.State{Sectors: slices.Repeat([][]byte{data}, ahead+4*perSlot), Cache: slices.Repeat([]disk.Write{{Sector: 16, Data: data}}, 3)},
		Log:   l,
		Point: point.Point{Epoch: 3, Data: data[1:40]},
	}
	h := &held{}
	add(h, data)
	add(h, blocks)
	add(h, s.Disk.Sectors)
	add(h, s.Disk.Cache)
	add(h, s.Log.Segs)
	add(h, s.Log.Held)
	for i, got := range made(s, b) {
		if i < 4 && none(got) {
			t.Fatalf("call %d is refused", i)
		}
		h.addState(got)
	}
	if !h.apart() {
		t.Error("an answer shares memory")
	}
}

// P18.8 and P3: writing over what was handed in, or over one answer, changes no other one; the same call answers the same again.
func TestAnswersStay(t *testing.T) {
	for name, s := range manyStates(t) {
		s, b := roomy(s), block(5, 5, "stay")
		first, second, want := made(s, b), made(s, b), made(roomy(s), block(5, 5, "stay"))
		wipe(s)
		clear(b.Data)
		for _, got := range first {
			wipe(got)
		}
		if !slices.EqualFunc(second, want, same) {
			t.Errorf("%s: an answer has changed", name)
		}
	}
}

// P1: nil and empty lists are one, and what is answered of them is alike.
func TestNilAndEmpty(t *testing.T) {
	bare := on(log.State{Segs: []segment.Seg{{}, {Seq: 1, Blocks: []segment.Block{{Owner: 1}, {Owner: 1}}}}, Held: make([]bool, 2), Next: 2}, 0)
	bare.Point = point.Point{}
	empty := bare
	empty.Disk.Cache = []disk.Write{}
	empty.Log.Segs = []segment.Seg{{Blocks: []segment.Block{}}, {Seq: 1, Blocks: []segment.Block{{Owner: 1, Data: []byte{}}, {Owner: 1, Data: []byte{}}}}}
	empty.Log.Open = []segment.Block{}
	empty.Point.Data = []byte{}
	if first, second := made(bare, segment.Block{Owner: 2}), made(empty, segment.Block{Owner: 2, Data: []byte{}}); !reflect.DeepEqual(first, second) {
		t.Error("calls tell them apart")
	}
	d := diskWith(2, layout{points: []point.Point{at(1, 0, 0, 0)}})
	e := d
	e.Cache = []disk.Write{}
	first, err := store.Mount(d, 2)
	second, emptyErr := store.Mount(e, 2)
	if err != api.OK || emptyErr != api.OK || !reflect.DeepEqual(first, second) {
		t.Error("Mount tells them apart")
	}
}
