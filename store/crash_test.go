package store_test

import (
	"bytes"
	"math/rand"
	"slices"
	"strings"
	"testing"

	"undercroft/api"
	"undercroft/disk"
	"undercroft/log"
	"undercroft/point"
	"undercroft/segment"
	"undercroft/store"
)

// batch is writes that are flushed together: octets that are laid from a sector on.
type batch struct {
	sector int
	octets []byte
}

// batches is what a call wrote that made one store of another, in order: segments by their numbers, and behind them a point.
func batches(before, after store.State) []batch {
	var l []batch
	for seq := before.Log.Next; seq < after.Log.Next; seq++ {
		slot := slices.Index(seqs(after.Log), seq)
		l = append(l, batch{slotAt(slot) / sector, segmentForm(after.Log.Segs[slot])})
	}
	if after.Point.Epoch != before.Point.Epoch {
		l = append(l, batch{regionAt(after.Point.Epoch) / sector, pointForm(after.Point)})
	}
	return l
}

// broken is a disk on which batches came to be written, till a crash that kept of the last one what keep says. It tells whether what stands there now is whole: what stood there ahead, or what was written.
func broken(t *testing.T, d disk.State, l []batch, keep []bool) (disk.State, bool) {
	t.Helper()
	whole := true
	for i, b := range l {
		n := len(b.octets) / sector
		elder, _ := disk.GetAll(d, b.sector, n)
		put, err := disk.PutAll(d, b.sector, b.octets)
		if err != api.OK {
			t.Fatalf("PutAll = %d", err)
		}
		if i < len(l)-1 {
			d, _ = disk.Flush(put)
			continue
		}
		d, _ = disk.Crash(put, keep)
		now, _ := disk.GetAll(d, b.sector, n)
		_, err = segment.Open(now)
		if n == perPoint {
			_, err = point.Decode(now)
		}
		whole = err != api.OK || bytes.Equal(now, elder) || bytes.Equal(now, b.octets)
	}
	return d, whole
}

// last is of each kind of block that is there the last one that was put.
func last(puts []segment.Block) []segment.Block {
	var l []segment.Block
	for i, b := range puts {
		later := func(c segment.Block) bool { return c.Owner == b.Owner && c.Index == b.Index }
		if len(b.Data) > 0 && !slices.ContainsFunc(puts[i+1:], later) {
			l = append(l, b)
		}
	}
	slices.SortFunc(l, func(a, b segment.Block) int {
		return slices.Compare([]int{a.Owner, a.Index}, []int{b.Owner, b.Index})
	})
	return l
}

// beginning tells of how many of all that was put a log has the blocks, at least so many; below 0: of none.
func beginning(t *testing.T, l log.State, puts []segment.Block, sure int) int {
	t.Helper()
	all, err := log.All(l)
	if err != api.OK {
		t.Fatalf("All = %d", err)
	}
	for n := len(puts); n >= sure; n-- {
		if sameBlocks(all, last(puts[:n])) {
			return n
		}
	}
	return -1
}

// remount mounts what a crash left, and mounts it once more.
func remount(t *testing.T, d disk.State, n int) store.State {
	t.Helper()
	m, err := store.Mount(d, n)
	if err != api.OK {
		t.Fatalf("Mount = %d", err)
	}
	if again, err := store.Mount(m.Disk, n); err != api.OK || !same(again, m) {
		t.Fatalf("Mount once more = %s, %d, want %s", brief(again), err, brief(m))
	}
	return m
}

// world is a store, all that was put into it and is not lost, of how many owners; whether much is put ahead of a sync; and how much was met.
type world struct {
	t      *testing.T
	chance *rand.Rand
	s      store.State
	puts   []segment.Block
	owners int
	lazy   bool
	met    map[string]int
}

// sure is how many of all that was put lay ahead of the last sync.
func (w *world) sure() int {
	return len(w.puts) - len(w.s.Log.Open)
}

// put is a call that puts a block by chance.
func (w *world) put() (store.State, api.Errno) {
	b := block(1+w.chance.Intn(w.owners), w.chance.Intn(4), strings.Repeat("p", w.chance.Intn(longest+1)))
	for i := range b.Data {
		b.Data[i] = byte(w.chance.Intn(256))
	}
	if w.chance.Intn(4) == 0 {
		b.Data = nil
	}
	s, err := store.Put(w.s, b)
	if err == api.OK {
		w.puts = append(w.puts, b)
	}
	return s, err
}

// clean is a call that cleans, by which nothing that is got may change.
func (w *world) clean() (store.State, api.Errno) {
	w.t.Helper()
	s, r, err := store.Clean(w.s)
	if err != api.OK {
		return s, err
	}
	w.met["cleaned"]++
	if len(batches(w.s, s)) > 1 {
		w.met["cleaned into two"]++
	}
	if w.s.Log.Segs[r.Slot].Seq != r.Seq || s.Log.Segs[r.Slot].Seq != 0 || !s.Log.Held[r.Slot] {
		w.t.Fatalf("%s: Clean = %s, %v", brief(w.s), brief(s), r)
	}
	was, _ := log.All(w.s.Log)
	if is, err := log.All(s.Log); err != api.OK || !sameBlocks(is, was) {
		w.t.Fatalf("%s: All behind Clean = %v, %d, want %v", brief(w.s), is, err, was)
	}
	on := remount(w.t, s.Disk, len(s.Log.Segs)).Log
	if n := len(w.puts) - len(s.Log.Open); beginning(w.t, on, w.puts[:n], n) != n {
		w.t.Fatalf("%s: on the disk is %v behind Clean, want %v", brief(w.s), on, last(w.puts[:n]))
	}
	return s, api.OK
}

// call is one of all calls, by chance.
func (w *world) call() (store.State, api.Errno) {
	w.t.Helper()
	step := w.chance.Intn(10)
	switch {
	case step < 2 && !w.lazy:
		return store.Sync(w.s)
	case step == 2 && (!w.lazy || len(w.s.Log.Open) == 0):
		return store.Checkpoint(w.s, w.chance.Intn(9), w.chance.Intn(9))
	case step == 3 || step == 4 && !w.lazy || step < 7 && len(w.s.Log.Open) > 6:
		return w.clean()
	}
	return w.put()
}

// step does a call; now and then a crash ends it, at any place. Behind a mixture, of which nothing is promised, it answers false.
func (w *world) step() bool {
	w.t.Helper()
	before, sure := w.s, w.sure()
	after, err := w.call()
	if err != api.OK {
		w.met["refused"]++
		return true
	}
	l := batches(before, after)
	if w.chance.Intn(4) > 0 {
		w.s = after
		if d, _ := broken(w.t, before.Disk, l, slices.Repeat([]bool{true}, perPoint)); !sameDisk(d, after.Disk) {
			w.t.Fatalf("%s: on the disk of %s is something else", brief(before), brief(after))
		}
		return true
	}
	l = l[:w.chance.Intn(len(l)+1)]
	keep := make([]bool, perPoint)
	for i := range keep {
		keep[i] = w.chance.Intn(4) > 0
	}
	d, whole := broken(w.t, before.Disk, l, keep)
	if !whole {
		w.met["mixture"]++
		return false
	}
	w.s = remount(w.t, d, len(before.Log.Segs))
	n := beginning(w.t, w.s.Log, w.puts, sure)
	if n < 0 {
		w.t.Fatalf("%s: Mount = %s, no beginning of %d puts from %d on", brief(before), brief(w.s), len(w.puts), sure)
	}
	w.met["crashed"]++
	if n > sure {
		w.met["more than sure"]++
	}
	if n < len(w.puts) {
		w.met["less than all"]++
	}
	w.puts = w.puts[:n]
	return true
}

// P18.4 to P18.6: scripts of calls, some of them ended by a crash: what is mounted is a beginning of what was put, with all that lay ahead of the last sync, however many crashes lie behind it.
func TestScripts(t *testing.T) {
	met := map[string]int{}
	for seed := range 400 {
		chance := rand.New(rand.NewSource(int64(seed)))
		s, err := store.Format(1 + chance.Intn(9))
		if err != api.OK {
			t.Fatal(err)
		}
		w := &world{t, chance, s, nil, 2 + chance.Intn(5), chance.Intn(2) == 0, met}
		for range 150 {
			if !w.step() {
				break
			}
			if err := wrong(w.s); err != api.OK {
				t.Fatalf("seed %d: %s may not be: %d", seed, brief(w.s), err)
			}
			if all, _ := log.All(w.s.Log); !sameBlocks(all, last(w.puts)) {
				t.Fatalf("seed %d: %s: All = %v, want %v", seed, brief(w.s), all, last(w.puts))
			}
		}
	}
	for _, name := range []string{"crashed", "more than sure", "less than all", "cleaned", "cleaned into two", "refused"} {
		if met[name] < 100 {
			t.Errorf("%s: met only %d times", name, met[name])
		}
	}
	if met["mixture"] > 50 {
		t.Errorf("%d mixtures", met["mixture"])
	}
}

// kept is what a crash keeps of n writes, by the bits of a number.
func kept(bits, n int) []bool {
	keep := make([]bool, n)
	for i := range keep {
		keep[i] = bits>>i&1 == 1
	}
	return keep
}

// crashAnywhere crashes a call at all its places, with all that each crash may keep, and mounts what is left.
func crashAnywhere(t *testing.T, name string, before, after store.State, puts []segment.Block) {
	t.Helper()
	l, sure := batches(before, after), len(puts)-len(after.Log.Open)
	whole := 0
	for i := range l {
		n := len(l[i].octets) / sector
		for bits := range 1 << n {
			d, right := broken(t, before.Disk, l[:i+1], kept(bits, n))
			if !right {
				continue
			}
			m := remount(t, d, len(before.Log.Segs))
			got := beginning(t, m.Log, puts, 0)
			if got == sure {
				whole++
			}
			if got < 0 || bits == 1<<n-1 && i == len(l)-1 && got != sure {
				t.Fatalf("%s, %d flushed, kept %b: Mount = %s, %d of %d puts", name, i, bits, brief(m), got, sure)
			}
		}
	}
	if whole == 0 && len(l) > 0 {
		t.Errorf("%s: nothing came", name)
	}
}

// P18.4: a store of few slots, all its calls crashed everywhere, with all that a crash may keep.
func TestCrashAnywhere(t *testing.T) {
	s, err := store.Format(4)
	if err != api.OK {
		t.Fatal(err)
	}
	var puts []segment.Block
	crashed := 0
	do := func(name string, after store.State, err api.Errno) {
		t.Helper()
		if err != api.OK {
			t.Fatalf("%s: %d", name, err)
		}
		crashAnywhere(t, name, s, after, puts)
		crashed += len(batches(s, after))
		s = after
	}
	put := func(b segment.Block) {
		t.Helper()
		after, err := store.Put(s, b)
		puts = append(puts, b)
		// What a put that syncs brings to the disk is what was open ahead of it.
		if len(after.Log.Open) == 1 && len(s.Log.Open) == mostBlocks {
			crashAnywhere(t, "Put", s, after, puts[:len(puts)-1])
		}
		if err != api.OK {
			t.Fatalf("Put: %d", err)
		}
		s = after
	}
	for round := range 12 {
		for i := range 5 {
			put(segment.Block{Owner: 1 + (round+i)%3, Index: i % 2, Data: text(round*5+i, (round*7+i*5)%(longest+1))})
		}
		if round%3 == 1 {
			after, err := store.Sync(s)
			do("Sync", after, err)
		}
		for range 4 {
			if after, _, err := store.Clean(s); err == api.OK {
				do("Clean", after, err)
			}
		}
		after, err := store.Checkpoint(s, round, round)
		do("Checkpoint", after, err)
	}
	if crashed < 30 {
		t.Errorf("only %d batches were crashed", crashed)
	}
}

// P18.4: of two segments of one cleaning the second is never there without the first, so that no later store meets it.
func TestCleanedIntoTwo(t *testing.T) {
	do := must(t)
	s := do(store.Format(5))
	var puts []segment.Block
	put := func(blocks ...segment.Block) {
		for _, b := range blocks {
			s = do(store.Put(s, b))
			puts = append(puts, b)
		}
	}
	put(many(1, 7)...)
	s = do(store.Checkpoint(s, 0, 0))
	put(many(2, 5)...)
	after, _, err := store.Clean(s)
	if err != api.OK || len(batches(s, after)) != 2 {
		t.Fatalf("Clean = %s, %d", brief(after), err)
	}
	for bits := range 1 << perSlot {
		d, _ := broken(t, s.Disk, batches(s, after)[:1], kept(bits, perSlot))
		m := remount(t, d, 5)
		n := beginning(t, m.Log, puts, 7)
		if n < 0 {
			t.Fatalf("kept %b: Mount = %s", bits, brief(m))
		}
		next := append(slices.Clone(puts[:n]), block(1, 0, "newer"))
		m = do(store.Sync(do(store.Put(m, block(1, 0, "newer")))))
		if m = remount(t, m.Disk, 5); beginning(t, m.Log, next, len(next)) != len(next) {
			t.Fatalf("kept %b: Mount of what was put behind it = %s", bits, brief(m))
		}
	}
}
