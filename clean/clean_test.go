package clean_test

import (
	"math"
	"math/big"
	"math/rand"
	"testing"

	"undercroft/api"
	"undercroft/clean"
	"undercroft/log"
	"undercroft/segment"
)

// The faces keep the signatures of the chapter.
var (
	_ func(int, int, int) (int, api.Errno)                 = clean.Score
	_ func(log.State) (clean.Record, api.Errno)            = clean.Victim
	_ func(log.State, clean.Record) (log.State, api.Errno) = clean.Clean
	_ func(log.State) (int, api.Errno)                     = clean.Room
	_ struct{ Slot, Seq int }                              = clean.Record{}
)

// places holds numbers of slots, those at the edges and beyond them among them.
func places() []int {
	list := []int{math.MinInt, -highest, 1 << 31, 1 << 32, 1<<32 + 1, math.MaxInt}
	for n := -2; n <= mostSlots+1; n++ {
		list = append(list, n)
	}
	return list
}

// P16.1: Score of some that are worked out by hand, the chapter's example first.
func TestScore(t *testing.T) {
	for _, c := range [][4]int{
		{1, 2, 9, 307},
		{1, 0, 1, 0},
		{1, 0, 2, 64},
		{1, 7, 2, 4},
		{1, 8, 2, 0},
		{1, 8, highest, 0},
		{1, 0, highest, 64 * (highest - 1)},
		{1, 1, highest, 64 * 7 * (highest - 1) / 9},
		{highest, 0, highest, 0},
		{highest - 1, 0, highest, 64},
		{5, 4, 8, 64},
		{3, 5, 5, 29},
		{3, 7, 10, 29},
	} {
		if n, err := clean.Score(c[0], c[1], c[2]); n != c[3] || err != api.OK {
			t.Errorf("Score(%d, %d, %d) = %d, %d, want %d", c[0], c[1], c[2], n, err, c[3])
		}
	}
}

// score is the chapter's sum, worked out by numbers that have no end.
func score(seq, live, next int) int {
	n := big.NewInt(64)
	n.Mul(n, big.NewInt(int64(8-live)))
	n.Mul(n, big.NewInt(int64(next-seq)))
	return int(n.Div(n, big.NewInt(int64(8+live))).Int64())
}

// P16.1: Score at all edges, those in its range and those beyond it.
func TestScoreEdges(t *testing.T) {
	numbers := []int{math.MinInt, math.MinInt + 1, -highest, -1, 0, 1, 2, 3, 1 << 31, 1 << 32, highest - 1, highest, highest + 1, highest + 8, 1 << 41, math.MaxInt - 1, math.MaxInt}
	lives := []int{math.MinInt, -8, -1, 0, 1, 2, 3, 4, 5, 6, 7, 8, 9, 10, 1 << 32, 1<<32 + 1, math.MaxInt}
	for _, seq := range numbers {
		for _, next := range append(numbers, seq-1, seq, seq+1) {
			for _, live := range lives {
				want, wantErr := 0, api.ErrRange
				if seq >= 1 && seq <= highest && live >= 0 && live <= 8 && next >= seq && next <= highest {
					want, wantErr = score(seq, live, next), api.OK
				}
				if n, err := clean.Score(seq, live, next); n != want || err != wantErr {
					t.Fatalf("Score(%d, %d, %d) = %d, %d, want %d, %d", seq, live, next, n, err, want, wantErr)
				}
			}
		}
	}
}

// P16.1: Score of numbers by chance; the older a segment is, and the less of it is live, the more.
func TestScoreByChance(t *testing.T) {
	chance := rand.New(rand.NewSource(16))
	for range 20000 {
		bits := 1 + chance.Intn(40)
		seq := 1 + chance.Intn(1<<bits)
		next := seq + chance.Intn(min(highest-seq, 1<<chance.Intn(41))+1)
		less := math.MaxInt
		for live := range 9 {
			n, err := clean.Score(seq, live, next)
			if n != score(seq, live, next) || n > less || err != api.OK {
				t.Fatalf("Score(%d, %d, %d) = %d, %d", seq, live, next, n, err)
			}
			if older, _ := clean.Score(max(1, seq-1), live, next); older < n {
				t.Fatalf("Score(%d, %d, %d) is below that of a younger one", seq-1, live, next)
			}
			less = n
		}
	}
}

// P16.1: which segment is cleaned next.
func TestVictim(t *testing.T) {
	x, gone, z := block(1, 0, "x"), block(1, 0, ""), block(3, 0, "z")
	record := func(slot, seq int) clean.Record { return clean.Record{Slot: slot, Seq: seq} }
	for name, c := range map[string]struct {
		s    log.State
		want clean.Record
		err  api.Errno
	}{
		"all free":                       {of(1, seg(0), seg(0)), record(0, 0), api.ErrNone},
		"all free, some open":            {opened(of(1, seg(0)), x), record(0, 0), api.ErrNone},
		"eight live":                     {of(9, seg(0), seg(4, many(1, 8)...)), record(0, 0), api.ErrNone},
		"eight live everywhere":          {whole(mostSlots), record(0, 0), api.ErrNone},
		"seven live of eight":            {of(9, seg(0), seg(4, partly(1, 7, 8)...)), record(1, 4), api.OK},
		"seven live of seven":            {of(9, seg(0), seg(4, many(1, 7)...)), record(1, 4), api.OK},
		"one live, alone":                {of(2, seg(1, x)), record(0, 1), api.OK},
		"not the oldest, it is whole":    {of(9, seg(1, many(1, 8)...), seg(8, many(2, 7)...)), record(1, 8), api.OK},
		"the oldest of alike ones":       {of(9, seg(8, x), seg(2, block(2, 0, "y")), seg(3, z)), record(1, 2), api.OK},
		"the emptiest of near ones":      {of(9, seg(4, many(1, 6)...), seg(5, many(2, 2)...), seg(3, many(3, 7)...)), record(1, 5), api.OK},
		"one that is needed no more":     {of(9, seg(7, block(2, 0, "y")), seg(8, x), seg(6, x)), record(2, 6), api.OK},
		"needed no more, but young":      {of(99, seg(98, gone), seg(3, many(3, 7)...)), record(1, 3), api.OK},
		"needed no more for Open":        {opened(of(9, seg(7, many(2, 2)...), seg(8, x)), x), record(0, 7), api.OK},
		"needed no more for Open, first": {opened(of(9, seg(8, x), seg(8-1, many(2, 7)...)), x), record(0, 8), api.OK},
		"gone is live where it hides":    {of(99, seg(90, gone, z), seg(1, x), seg(91, block(4, 0, "w"))), record(1, 1), api.OK},
		"alike, the lowest":              {of(4, seg(1, many(1, 4)...), seg(3, gone)), record(0, 1), api.OK},
		"alike, the lowest, turned":      {of(4, seg(3, gone), seg(1, many(2, 4)...)), record(0, 3), api.OK},
		"alike, rounded down":            {of(10, seg(8, many(1, 5)...), seg(3, many(2, 7)...)), record(0, 8), api.OK},
		"alike, rounded down, turned":    {of(10, seg(3, many(2, 7)...), seg(8, many(1, 5)...)), record(0, 3), api.OK},
		"one that is held":               {holding(of(9, seg(2, x), seg(7, z)), 0), record(0, 2), api.OK},
		"the last slot":                  {with(whole(mostSlots), 63, seg(64, many(64, 7)...)), record(63, 64), api.OK},
		"the highest Next":               {of(highest, seg(highest-1, x), seg(1, z)), record(1, 1), api.OK},
	} {
		if r, err := clean.Victim(c.s); r != c.want || err != c.err {
			t.Errorf("%s: Victim = %v, %d", name, r, err)
		}
	}
}

// P16.1, P16.2: a log that may not be is refused ahead of all else, with records that are right and some that are wrong.
func TestRefused(t *testing.T) {
	for name, s := range wrongStates() {
		if r, err := clean.Victim(s); err != api.ErrState || r != (clean.Record{}) {
			t.Errorf("%s: Victim = %v, %d", name, r, err)
		}
		if n, err := clean.Room(s); err != api.ErrState || n != 0 {
			t.Errorf("%s: Room = %d, %d", name, n, err)
		}
		for _, slot := range []int{math.MinInt, -1, 0, 1, mostSlots, mostSlots + 1, math.MaxInt} {
			for _, seq := range []int{-1, 0, 1, 4, math.MaxInt} {
				if got, err := clean.Clean(s, clean.Record{Slot: slot, Seq: seq}); err != api.ErrState || !none(got) {
					t.Errorf("%s: Clean(%d, %d) = %v, %d", name, slot, seq, got, err)
				}
			}
		}
	}
}

// hold holds all that is told of s, and what is cleaned of it, against the chapter's words.
func hold(t *testing.T, name string, s log.State, met map[api.Errno]int) {
	t.Helper()
	want, wantErr := victim(s)
	if r, err := clean.Victim(s); r != want || err != wantErr {
		t.Fatalf("%s: %v: Victim = %v, %d, want %v, %d", name, s, r, err, want, wantErr)
	}
	if n, err := clean.Room(s); n != room(s) || err != api.OK {
		t.Fatalf("%s: %v: Room = %d, %d", name, s, n, err)
	}
	for _, slot := range places() {
		seqs := []int{0, 1, -1, s.Next, math.MinInt, math.MaxInt}
		if slot >= 0 && slot < len(s.Segs) {
			seq := s.Segs[slot].Seq
			seqs = append(seqs, seq, seq-1, seq+1, seq+1<<32)
		}
		for _, seq := range seqs {
			met[holdClean(t, name, s, clean.Record{Slot: slot, Seq: seq})]++
		}
	}
}

// holdClean holds a cleaning of s against the chapter's words, and what is got behind it to what was got ahead.
func holdClean(t *testing.T, name string, s log.State, r clean.Record) api.Errno {
	t.Helper()
	want, wantErr := cleaned(s, r)
	got, err := clean.Clean(s, r)
	if err != wantErr || !same(got, want) {
		t.Fatalf("%s: %v: Clean(%v) = %v, %d, want %v, %d", name, s, r, got, err, want, wantErr)
	}
	if err != api.OK {
		return err
	}
	if err := log.Check(got); err != api.OK {
		t.Fatalf("%s: %v: Check behind Clean(%v) = %d", name, s, r, err)
	}
	all, _ := log.All(s)
	if left, err := log.All(got); err != api.OK || !sameBlocks(left, all) {
		t.Fatalf("%s: %v: All behind Clean(%v) = %v, %d, want %v", name, s, r, left, err, all)
	}
	for _, b := range s.Segs[r.Slot].Blocks {
		data, ok, _ := log.Get(s, b.Owner, b.Index)
		if left, leftOK, err := log.Get(got, b.Owner, b.Index); string(left) != string(data) || leftOK != ok || err != api.OK {
			t.Fatalf("%s: %v: Get(%d, %d) behind Clean(%v) = %q, %v, %d", name, s, b.Owner, b.Index, r, left, leftOK, err)
		}
	}
	if _, err := clean.Clean(got, r); err != api.ErrNone {
		t.Fatalf("%s: %v: Clean(%v) once more = %d", name, s, r, err)
	}
	return api.OK
}

// P16.1 to P16.3: what is told of states at the edges, and what is cleaned of them.
func TestStates(t *testing.T) {
	for name, s := range rightStates() {
		hold(t, name, s, map[api.Errno]int{})
	}
}

// P16.1 to P16.3: what is told of states by chance, that no calls have made.
func TestStatesByChance(t *testing.T) {
	chance := rand.New(rand.NewSource(1616))
	blocks := func(n int) []segment.Block {
		var l []segment.Block
		for range n {
			l = append(l, block(1+chance.Intn(4), chance.Intn(6), []string{"", "a", "b", "ab"}[chance.Intn(4)]))
		}
		return l
	}
	met := map[api.Errno]int{}
	for range 1500 {
		slots := 1 + chance.Intn(6)
		s := of(2*slots+1, make([]segment.Seg, slots)...)
		for slot, seq := range chance.Perm(2 * slots)[:slots] {
			if chance.Intn(4) > 0 {
				s.Segs[slot] = seg(seq+1, blocks(1+chance.Intn(8))...)
			}
			s.Held[slot] = chance.Intn(4) == 0
		}
		s.Next += chance.Intn(2) * chance.Intn(1000)
		if chance.Intn(10) == 0 {
			s.Next = highest - chance.Intn(3)
		}
		s.Open = blocks(chance.Intn(9))
		if err := log.Check(s); err != api.OK {
			t.Fatalf("%v may not be: %d", s, err)
		}
		hold(t, "by chance", s, met)
	}
	for _, err := range []api.Errno{api.OK, api.ErrNone, api.ErrOrder, api.ErrFull} {
		if met[err] < 500 {
			t.Errorf("%d was met only %d times", err, met[err])
		}
	}
}

// P16.2: what a cleaning makes of a log, case by case.
func TestClean(t *testing.T) {
	x, gone, y := block(1, 0, "x"), block(1, 0, ""), block(2, 0, "y")
	five, eight := many(9, 5), many(9, 8)
	for name, c := range map[string]struct {
		s, want log.State
		err     api.Errno
	}{
		"one live":                       {of(6, seg(5, x), seg(0)), of(7, seg(0), seg(6, x)), api.OK},
		"in order, without elder ones":   {of(6, seg(5, x, y, block(1, 0, "w"), block(1, 1, "v")), seg(0)), of(7, seg(0), seg(6, y, block(1, 0, "w"), block(1, 1, "v"))), api.OK},
		"none live, none free":           {of(6, seg(5, x), seg(2, y)), log.State{}, api.ErrFull},
		"all elder, none free":           {of(6, seg(4, x), seg(5, x)), of(6, seg(0), seg(5, x)), api.OK},
		"all elder, Open stays":          {opened(of(6, seg(4, x)), y, x), opened(of(6, seg(0)), y, x), api.OK},
		"all elder, eight open stay":     {opened(of(6, seg(4, x)), append(many(9, 7), x)...), opened(of(6, seg(0)), append(many(9, 7), x)...), api.OK},
		"all elder, the last number":     {of(highest, seg(4, x), seg(5, x)), of(highest, seg(0), seg(5, x)), api.OK},
		"behind those that are open":     {opened(of(6, seg(5, x), seg(0)), y), of(7, seg(0), seg(6, y, x)), api.OK},
		"eight together":                 {opened(of(6, seg(5, many(1, 3)...), seg(0)), five...), of(7, seg(0), seg(6, append(many(9, 5), many(1, 3)...)...)), api.OK},
		"nine together":                  {opened(of(6, seg(5, many(1, 4)...), seg(0), seg(0)), five...), of(8, seg(0), seg(6, append(many(9, 5), many(1, 3)...)...), seg(7, many(1, 4)[3])), api.OK},
		"nine together, room for eight":  {opened(of(6, seg(5, many(1, 4)...), seg(0)), five...), log.State{}, api.ErrFull},
		"eight open":                     {opened(of(6, seg(5, x), seg(0), seg(0)), eight...), of(8, seg(0), seg(6, eight...), seg(7, x)), api.OK},
		"eight open, room for eight":     {opened(of(6, seg(5, x), seg(0)), eight...), log.State{}, api.ErrFull},
		"the free one is held":           {holding(of(6, seg(5, x), seg(0)), 1), log.State{}, api.ErrFull},
		"not into one that is held":      {holding(of(6, seg(5, x), seg(0), seg(0)), 1), holding(of(7, seg(0), seg(0), seg(6, x)), 1), api.OK},
		"held, and still held":           {holding(of(6, seg(5, x), seg(0)), 0), holding(of(7, seg(0), seg(6, x)), 0), api.OK},
		"the last number":                {of(highest, seg(5, x), seg(0)), log.State{}, api.ErrFull},
		"the last number but one":        {of(highest-1, seg(5, x), seg(0)), of(highest, seg(0), seg(highest-1, x)), api.OK},
		"the last but one, eight open":   {opened(of(highest-1, seg(5, x), seg(0), seg(0)), eight...), log.State{}, api.ErrFull},
		"gone, hides nothing":            {of(6, seg(5, gone, y), seg(0)), of(7, seg(0), seg(6, y)), api.OK},
		"gone alone, none free":          {of(6, seg(5, gone)), of(6, seg(0)), api.OK},
		"gone, hides in its segment":     {of(6, seg(5, x, gone), seg(0)), of(7, seg(0), seg(6, gone)), api.OK},
		"gone, hides elsewhere":          {of(6, seg(5, gone), seg(2, x), seg(0)), of(7, seg(0), seg(2, x), seg(6, gone)), api.OK},
		"eight live":                     {of(6, seg(5, eight...), seg(0)), of(7, seg(0), seg(6, eight...)), api.OK},
		"the others stay as they are":    {of(9, seg(5, x), seg(0), seg(8, y, y), seg(2, x, gone)), of(10, seg(0), seg(9, x), seg(8, y, y), seg(2, x, gone)), api.OK},
		"a later one in another segment": {of(9, seg(5, x, y), seg(8, x), seg(0)), of(10, seg(0), seg(8, x), seg(9, y)), api.OK},
	} {
		got, err := clean.Clean(c.s, clean.Record{Slot: 0, Seq: c.s.Segs[0].Seq})
		if err != c.err || !same(got, c.want) {
			t.Errorf("%s: Clean = %v, %d, want %v, %d", name, got, err, c.want, c.err)
		}
	}
}

// P16.2: a record's slot is asked for ahead of its Seq, and that ahead of room.
func TestOrder(t *testing.T) {
	s := of(6, seg(5, block(1, 0, "x")), seg(3, block(2, 0, "y")))
	for _, c := range []struct {
		s    log.State
		r    clean.Record
		want api.Errno
	}{
		{s, clean.Record{Slot: 2, Seq: 5}, api.ErrNone},
		{s, clean.Record{Slot: -1, Seq: 5}, api.ErrNone},
		{s, clean.Record{Slot: 1, Seq: 5}, api.ErrOrder},
		{s, clean.Record{Slot: 0, Seq: 3}, api.ErrOrder},
		{s, clean.Record{Slot: 0}, api.ErrOrder},
		{s, clean.Record{Slot: 0, Seq: 5}, api.ErrFull},
		{with(s, 1, segment.Seg{}), clean.Record{Slot: 1, Seq: 3}, api.ErrNone},
		{with(s, 1, segment.Seg{}), clean.Record{Slot: 1}, api.ErrNone},
		{with(s, 1, segment.Seg{}), clean.Record{Slot: 0, Seq: 6}, api.ErrOrder},
	} {
		if got, err := clean.Clean(c.s, c.r); err != c.want || !none(got) {
			t.Errorf("%v: Clean(%v) = %v, %d, want %d", c.s, c.r, got, err, c.want)
		}
	}
}

// P16.2: Room counts slots that are free and not held.
func TestRoom(t *testing.T) {
	x := block(1, 0, "x")
	for name, c := range map[string]struct {
		s    log.State
		want int
	}{
		"one":               {of(1, seg(0)), 1},
		"one in use":        {of(2, seg(1, x)), 0},
		"one held":          {holding(of(1, seg(0)), 0), 0},
		"one in use, held":  {holding(of(2, seg(1, x)), 0), 0},
		"some":              {holding(of(9, seg(0), seg(4, x), seg(0), seg(5, x), seg(0)), 0, 1), 2},
		"64":                {of(1, make([]segment.Seg, mostSlots)...), 64},
		"none of 64":        {filled(mostSlots), 0},
		"the last of 64":    {with(filled(mostSlots), 63, segment.Seg{}), 1},
		"the last number":   {of(highest, seg(0), seg(0)), 2},
		"eight blocks open": {opened(of(1, seg(0), seg(0)), many(1, 8)...), 2},
	} {
		if n, err := clean.Room(c.s); n != c.want || err != api.OK {
			t.Errorf("%s: Room = %d, %d", name, n, err)
		}
	}
}
