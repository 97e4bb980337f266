package store_test

import (
	"bytes"
	"encoding/hex"
	"math"
	"math/rand"
	"slices"
	"strings"
	"testing"

	"undercroft/api"
	"undercroft/clean"
	"undercroft/disk"
	"undercroft/log"
	"undercroft/point"
	"undercroft/segment"
	"undercroft/store"
)

// The faces keep the signatures of the chapter.
var (
	_ func(int) (store.State, api.Errno)                        = store.Format
	_ func(store.State, segment.Block) (store.State, api.Errno) = store.Put
	_ func(store.State) (store.State, api.Errno)                = store.Sync
	_ func(store.State, int, int) (store.State, api.Errno)      = store.Checkpoint
	_ func(store.State) (store.State, clean.Record, api.Errno)  = store.Clean
	_ func(disk.State, int) (store.State, api.Errno)            = store.Mount
	_ struct {
		Disk  disk.State
		Log   log.State
		Point point.Point
	} = store.State{}
)

// must answers a state, and ends the test if it is refused.
func must(t *testing.T) func(s store.State, err api.Errno) store.State {
	return func(s store.State, err api.Errno) store.State {
		t.Helper()
		if err != api.OK {
			t.Fatalf("refused: %d", err)
		}
		return s
	}
}

// octetsOf reads digits, however they are spaced.
func octetsOf(t *testing.T, digits string) []byte {
	t.Helper()
	b, err := hex.DecodeString(strings.ReplaceAll(digits, " ", ""))
	if err != nil {
		t.Fatal(err)
	}
	return b
}

// P18.1 to P18.3: the chapter's example.
func TestExample(t *testing.T) {
	do := must(t)
	s := do(store.Format(4))
	s = do(store.Put(s, block(1, 0, "x")))
	s = do(store.Sync(s))
	d, _ := disk.Crash(s.Disk, nil)
	m := do(store.Mount(d, 4))
	if b, ok, err := log.Get(m.Log, 1, 0); string(b) != "x" || !ok || err != api.OK {
		t.Errorf("Get = %q, %v, %d", b, ok, err)
	}
	if !same(m, s) {
		t.Errorf("Mount = %s, want %s", brief(m), brief(s))
	}
}

// P18.1: Format makes a disk of zeros, but for the first point, which stands there; no slot is in use.
func TestFormat(t *testing.T) {
	for n := 1; n <= mostSlots; n++ {
		p := point.Point{Epoch: 1, Data: make([]byte, 5*n)}
		all := make([]byte, (16+6*n)*64)
		copy(all[512:], pointForm(p))
		want := store.State{Disk: landed(all), Log: of(1, make([]segment.Seg, n)...), Point: p}
		got, err := store.Format(n)
		if err != api.OK || !same(got, want) {
			t.Fatalf("Format(%d) = %s, %d, want %s", n, brief(got), err, brief(want))
		}
		if m, err := store.Mount(got.Disk, n); err != api.OK || !same(m, want) {
			t.Fatalf("Mount of Format(%d) = %s, %d", n, brief(m), err)
		}
	}
	for _, n := range []int{math.MinInt, -64, -1, 0, 65, 66, 128, 338, 339, 1 << 32, 1<<32 + 4, 1 << 61, math.MaxInt/6 + 1, math.MaxInt} {
		if got, err := store.Format(n); err != api.ErrRange || !none(got) {
			t.Errorf("Format(%d) = %s, %d", n, brief(got), err)
		}
	}
}

// P18.1, P18.2: what stands on a disk, worked out by hand, but for the sums.
func TestOctets(t *testing.T) {
	do := must(t)
	s := do(store.Format(2))
	want := make([]byte, 28*64)
	lay := func(at int, digits string, size int) {
		b := append(octetsOf(t, digits), make([]byte, size)...)[:size]
		copy(want[at*64:], b)
	}
	look := func(name string) {
		t.Helper()
		// Sums have tests of their own: those that are there are taken.
		got := flat(s.Disk)
		for slot := range 2 {
			copy(want[slotAt(slot)+380:][:4], got[slotAt(slot)+380:])
		}
		for region := range 2 {
			length := int(want[region*512])<<8 | int(want[region*512+1])
			copy(want[region*512+2+max(0, length-4):][:min(4, length)], got[region*512+2+max(0, length-4):])
		}
		if !bytes.Equal(got, want) || len(s.Disk.Cache) > 0 {
			t.Fatalf("%s:\n%x, want\n%x", name, got, want)
		}
	}
	lay(8, "0016 07 04 02 00 00 00 01 0a 0000000000 0000000000", 512)
	look("Format")
	s = do(store.Put(s, block(258, 3, "abc")))
	s = do(store.Put(s, block(1, 255, "")))
	look("Put")
	s = do(store.Sync(s))
	lay(16, "73656731 0000000000000001 02 00000102 03 03 00000001 ff 00 616263", 384)
	look("Sync")
	s = do(store.Put(s, block(1, 0, "z")))
	s = do(store.Checkpoint(s, 5, 64))
	lay(22, "73656731 0000000000000002 01 00000001 00 01 7a", 384)
	lay(0, "0017 07 04 04 04 0a 8001 01 0a 0000000001 0000000002", 512)
	look("Checkpoint")
	s = do(store.Checkpoint(s, 0, 1))
	lay(8, "0016 07 04 06 04 00 02 01 0a 0000000001 0000000002", 512)
	look("Checkpoint once more")
}

// answer is what one call tells of a store, and what it has to tell.
type answer struct {
	name         string
	got, want    store.State
	err, wantErr api.Errno
}

// triedBlocks holds blocks that may stand in a segment, and some that may not.
func triedBlocks() []segment.Block {
	return []segment.Block{
		block(3, 0, "new"), block(1, 0, ""), {Owner: 1}, block(highestOwner, highestIndex, strings.Repeat("b", longest)),
		{}, block(0, 0, "x"), block(-1, 0, "x"), block(highestOwner+1, 0, "x"), block(1, -1, "x"), block(1, highestIndex+1, "x"), block(1, 0, strings.Repeat("b", longest+1)), block(math.MinInt, math.MaxInt, "x"),
	}
}

// answers tells what all calls tell of s, and what the plain reading does.
func answers(s store.State) []answer {
	var all []answer
	add := func(name string, got store.State, err api.Errno, want store.State, wantErr api.Errno) {
		all = append(all, answer{name, got, want, err, wantErr})
	}
	for _, b := range triedBlocks() {
		got, err := store.Put(s, b)
		want, wantErr := plainPut(s, b)
		add("Put", got, err, want, wantErr)
	}
	got, err := store.Sync(s)
	want, wantErr := plainSync(s)
	add("Sync", got, err, want, wantErr)
	for _, c := range [][2]int{{0, 0}, {7, 300}, {highest, highest}, {-1, 0}, {0, -1}, {highest + 1, 0}, {0, highest + 1}} {
		got, err := store.Checkpoint(s, c[0], c[1])
		want, wantErr := plainCheckpoint(s, c[0], c[1])
		add("Checkpoint", got, err, want, wantErr)
	}
	return all
}

// hold holds all calls to the plain reading, and counts which errors were met.
func hold(t *testing.T, name string, s store.State, met map[api.Errno]int) {
	t.Helper()
	for _, a := range answers(s) {
		met[a.wantErr]++
		if a.wantErr != api.OK {
			a.want = store.State{}
		}
		if a.err != a.wantErr || !same(a.got, a.want) {
			t.Fatalf("%s: %s: %s = %s, %d, want %s, %d", name, brief(s), a.name, brief(a.got), a.err, brief(a.want), a.wantErr)
		}
	}
	want, wantRecord, wantErr := plainClean(s)
	met[wantErr]++
	got, r, err := store.Clean(s)
	if err != wantErr || r != wantRecord || !same(got, want) {
		t.Fatalf("%s: %s: Clean = %s, %v, %d, want %s, %v, %d", name, brief(s), brief(got), r, err, brief(want), wantRecord, wantErr)
	}
}

// P18.1, P18.2: all calls on stores at the edges: what they make, and the order of their errors.
func TestStates(t *testing.T) {
	met := map[api.Errno]int{}
	for name, s := range rightStates() {
		if err := wrong(s); err != api.OK {
			t.Fatalf("%s may not be: %d", name, err)
		}
		hold(t, name, s, met)
	}
	for _, err := range []api.Errno{api.OK, api.ErrArg, api.ErrFull, api.ErrRange, api.ErrNone} {
		if met[err] < 50 {
			t.Errorf("%d was met only %d times", err, met[err])
		}
	}
}

// P18.1, P18.2: a store that may not be is refused, by its disk, its log, its point and its size in that order, ahead of what else is wrong.
func TestWrongStates(t *testing.T) {
	met := map[api.Errno]int{}
	for name, s := range wrongStates() {
		if err := wrong(s); err == api.OK {
			t.Fatalf("%s may be", name)
		}
		hold(t, name, s, met)
	}
	if len(met) != 3 || met[api.ErrState] < 50 || met[api.ErrRange] < 50 || met[api.ErrLong] < 5 {
		t.Errorf("met %v", met)
	}
}

// P18.1: of each order of faults one that tells the two apart.
func TestOrder(t *testing.T) {
	right := on(opened(of(2, seg(1, block(1, 0, "x")), seg(0)), block(2, 0, "y")), 2)
	wrong := parts()
	change := func(f func(s *store.State)) store.State {
		s := right
		f(&s)
		return s
	}
	for name, c := range map[string]struct {
		s    store.State
		want api.Errno
	}{
		"disk ahead of point": {change(func(s *store.State) {
			s.Disk, s.Point = wrong.disks["a write beyond"], wrong.points["long data"]
		}), api.ErrState},
		"log ahead of point": {change(func(s *store.State) {
			s.Log, s.Point = wrong.logs["two alike"], wrong.points["long data"]
		}), api.ErrState},
		"point ahead of size":      {change(func(s *store.State) { *s = sized(*s, 1); s.Point = wrong.points["long data"] }), api.ErrLong},
		"point's number, and size": {change(func(s *store.State) { *s = sized(*s, -1); s.Point = wrong.points["a view above"] }), api.ErrRange},
		"size":                     {sized(right, 6), api.ErrState},
	} {
		if _, err := store.Put(c.s, segment.Block{}); err != c.want {
			t.Errorf("%s: Put = %d, want %d", name, err, c.want)
		}
		if _, err := store.Sync(c.s); err != c.want {
			t.Errorf("%s: Sync = %d, want %d", name, err, c.want)
		}
		if _, err := store.Checkpoint(c.s, -1, -1); err != c.want {
			t.Errorf("%s: Checkpoint = %d, want %d", name, err, c.want)
		}
		if _, _, err := store.Clean(c.s); err != c.want {
			t.Errorf("%s: Clean = %d, want %d", name, err, c.want)
		}
	}
}

// P18.1: what Put does where eight blocks are open: a block that may not be is refused ahead of them, and they are synced ahead of one that may.
func TestPutWithEightOpen(t *testing.T) {
	x, eight := block(1, 0, "x"), many(9, mostBlocks)
	room, noRoom := on(opened(of(2, seg(1, x), seg(0)), eight...), 0), on(opened(of(2, seg(1, x)), eight...), 0)
	got, err := store.Put(room, x)
	if err != api.OK || !sameBlocks(got.Log.Open, []segment.Block{x}) || !sameBlocks(got.Log.Segs[1].Blocks, eight) || got.Log.Next != 3 {
		t.Errorf("Put = %s, %d", brief(got), err)
	}
	if !bytes.Equal(flat(got.Disk)[slotAt(1):], segmentForm(seg(2, eight...))) || len(got.Disk.Cache) > 0 {
		t.Error("the eight blocks are not on the disk")
	}
	for name, c := range map[string]struct {
		s    store.State
		b    segment.Block
		want api.Errno
	}{
		"no slot":                   {noRoom, x, api.ErrFull},
		"no slot, a wrong block":    {noRoom, block(0, 0, "x"), api.ErrArg},
		"a slot, a wrong block":     {room, block(0, 0, "x"), api.ErrArg},
		"no writes":                 {on(room.Log, mostWrites-5), x, api.ErrFull},
		"no writes, a wrong block":  {on(room.Log, mostWrites), block(1, -1, "x"), api.ErrArg},
		"just so many writes":       {on(room.Log, mostWrites-6), x, api.OK},
		"seven open need no writes": {on(opened(room.Log, eight[1:]...), mostWrites), x, api.OK},
		"the last number":           {on(opened(of(highest, seg(0), seg(0)), eight...), 0), x, api.ErrFull},
	} {
		if got, err := store.Put(c.s, c.b); err != c.want || err != api.OK && !none(got) {
			t.Errorf("%s: Put = %s, %d, want %d", name, brief(got), err, c.want)
		}
	}
}

// P18.1: without open blocks nothing is flushed; with some all that was put ahead is.
func TestSync(t *testing.T) {
	s := on(of(1, seg(0), seg(0)), 9)
	if got, err := store.Sync(s); err != api.OK || !same(got, s) || len(got.Disk.Cache) != 9 {
		t.Errorf("Sync of nothing = %s, %d", brief(got), err)
	}
	s.Log = opened(s.Log, block(1, 0, "x"))
	got, err := store.Sync(s)
	want := flat(s.Disk)
	copy(want[slotAt(0):], segmentForm(seg(1, block(1, 0, "x"))))
	if err != api.OK || len(got.Disk.Cache) > 0 || !bytes.Equal(flat(got.Disk), want) {
		t.Errorf("Sync = %s, %d", brief(got), err)
	}
}

// P18.2: segments of one cleaning are each flushed, so that a cache which has room for one alone is enough, and none is there without those ahead of it.
func TestCleanFlushesEach(t *testing.T) {
	l := opened(of(9, seg(0), seg(4, many(1, 7)...), seg(0), seg(8, many(2, mostBlocks)...)), many(9, 7)...)
	for _, writes := range []int{0, mostWrites - 12, mostWrites - 11, mostWrites - 6} {
		s, r, err := store.Clean(on(l, writes))
		if err != api.OK || r != (clean.Record{Slot: 1, Seq: 4}) || !slices.Equal(seqs(s.Log), []int{9, 0, 10, 8}) || !slices.Equal(s.Log.Held, []bool{false, true, false, false}) {
			t.Errorf("%d writes: Clean = %s, %v, %d", writes, brief(s), r, err)
		}
	}
	for _, writes := range []int{mostWrites - 5, mostWrites} {
		if s, r, err := store.Clean(on(l, writes)); err != api.ErrFull || !none(s) || r != (clean.Record{}) {
			t.Errorf("%d writes: Clean = %s, %v, %d", writes, brief(s), r, err)
		}
	}
	// Where nothing is live nothing is written, and so nothing flushed.
	s, r, err := store.Clean(on(of(3, seg(1, block(1, 0, "x")), seg(2, block(1, 0, "y"))), mostWrites))
	if err != api.OK || r != (clean.Record{Slot: 0, Seq: 1}) || len(s.Disk.Cache) != mostWrites || !slices.Equal(s.Log.Held, []bool{true, false}) {
		t.Errorf("Clean = %s, %v, %d", brief(s), r, err)
	}
}

// P18.2: a slot that was cleaned is not given out ahead of the next checkpoint, and then it is.
func TestHeld(t *testing.T) {
	do := must(t)
	s := do(store.Format(2))
	for _, data := range []string{"a", "b"} {
		s = do(store.Sync(do(store.Put(s, block(1, 0, data)))))
	}
	s, r, err := store.Clean(s)
	if err != api.OK || r != (clean.Record{Slot: 0, Seq: 1}) || !s.Log.Held[0] {
		t.Fatalf("Clean = %s, %v, %d", brief(s), r, err)
	}
	s = do(store.Put(s, block(2, 0, "c")))
	if got, err := store.Sync(s); err != api.ErrFull || !none(got) {
		t.Errorf("Sync = %s, %d", brief(got), err)
	}
	if got, err := store.Checkpoint(s, 0, 0); err != api.ErrFull || !none(got) {
		t.Errorf("Checkpoint = %s, %d", brief(got), err)
	}
	s.Log.Open = nil
	s = do(store.Checkpoint(s, 4, 5))
	want := point.Point{Epoch: 2, Seq: 2, View: 4, Commit: 5, Data: numbers(0, 2)}
	if slices.Contains(s.Log.Held, true) || !samePoint(s.Point, want) {
		t.Errorf("Checkpoint: %s", brief(s))
	}
	s = do(store.Sync(do(store.Put(s, block(2, 0, "c")))))
	if !slices.Equal(seqs(s.Log), []int{3, 2}) {
		t.Errorf("Sync: %s", brief(s))
	}
}

// anyLog is a log by chance, that no calls have made.
func anyLog(chance *rand.Rand) log.State {
	blocks := func(n int) []segment.Block {
		var l []segment.Block
		for range n {
			l = append(l, block(1+chance.Intn(4), chance.Intn(6), []string{"", "a", "b", "ab"}[chance.Intn(4)]))
		}
		return l
	}
	slots := 1 + chance.Intn(6)
	l := of(2*slots+1, make([]segment.Seg, slots)...)
	for slot, seq := range chance.Perm(2 * slots)[:slots] {
		if chance.Intn(4) > 0 {
			l.Segs[slot] = seg(seq+1, blocks(1+chance.Intn(8))...)
		}
		l.Held[slot] = chance.Intn(4) == 0
	}
	l.Next += chance.Intn(2) * chance.Intn(1000)
	if chance.Intn(10) == 0 {
		l.Next = highest - chance.Intn(3)
	}
	return opened(l, blocks(chance.Intn(9))...)
}

// P18.1, P18.2: all calls on stores by chance.
func TestStatesByChance(t *testing.T) {
	chance := rand.New(rand.NewSource(18))
	met := map[api.Errno]int{}
	for range 1500 {
		writes := chance.Intn(4)
		if chance.Intn(10) == 0 {
			writes = mostWrites - chance.Intn(16)
		}
		s := on(anyLog(chance), writes)
		s.Point.Epoch = chance.Intn(5)
		if chance.Intn(10) == 0 {
			s.Point.Epoch = highest - chance.Intn(3)
		}
		hold(t, "by chance", s, met)
	}
	for _, err := range []api.Errno{api.OK, api.ErrArg, api.ErrFull, api.ErrRange} {
		if met[err] < 500 {
			t.Errorf("%d was met only %d times", err, met[err])
		}
	}
}
