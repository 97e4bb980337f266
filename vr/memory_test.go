package vr_test

import (
	"math/rand"
	"reflect"
	"runtime"
	"slices"
	"testing"
	"unsafe"

	"undercroft/api"
	"undercroft/vr"
)

// held is all that was handed in or answered, and where it lies. Nothing of it is given back while it is looked at: memory that nobody holds comes back in later answers.
type held struct {
	all   []any
	spans [][2]uintptr
}

// add takes note of where a list lies, with the room behind it.
func add[T any](h *held, list []T) {
	from := uintptr(unsafe.Pointer(unsafe.SliceData(list)))
	h.all = append(h.all, list)
	h.spans = append(h.spans, [2]uintptr{from, from + uintptr(cap(list))*unsafe.Sizeof(*new(T))})
}

func (h *held) addLog(l [][]byte) {
	add(h, l)
	for _, entry := range l {
		add(h, entry)
	}
}

func (h *held) addState(s vr.State) {
	h.addLog(s.Log)
	add(h, s.Match)
	add(h, s.Marks)
	add(h, s.Ballots)
	for _, b := range s.Ballots {
		h.addLog(b.Log)
	}
	add(h, s.Draws)
}

func (h *held) addEvent(e vr.Event) {
	h.addLog(e.Msg.Log)
	add(h, e.Data)
}

func (h *held) addAnswer(a answer) {
	h.addState(a.s)
	add(h, a.told)
	for _, m := range a.told {
		h.addLog(m.Log)
	}
}

// apart tells whether no two of what is held overlap.
func (h *held) apart() bool {
	list := slices.DeleteFunc(slices.Clone(h.spans), func(s [2]uintptr) bool { return s[0] == s[1] })
	slices.SortFunc(list, func(a, b [2]uintptr) int { return slices.Compare(a[:], b[:]) })
	for i := range list {
		if i > 0 && list[i][0] < list[i-1][1] {
			return false
		}
	}
	runtime.KeepAlive(h.all)
	return true
}

// answer is what a call answers.
type answer struct {
	s    vr.State
	told []vr.Msg
	err  api.Errno
}

// made is what Step makes of s by an event, and what a crash leaves of s.
func made(s vr.State, e vr.Event) []answer {
	next, told, err := vr.Step(s, e)
	left, leftErr := vr.Restart(s)
	return []answer{{next, told, err}, {left, nil, leftErr}}
}

func sameAnswer(a, b answer) bool {
	return same(a.s, b.s) && sameTold(a.told, b.told) && a.err == b.err
}

// behind is l with room behind it, in which x stands.
func behind[T any](l []T, x T) []T {
	return append(slices.Clip(slices.Clone(l)), x, x, x)[:len(l)]
}

func roomyLog(l [][]byte) [][]byte {
	l = slices.Clone(l)
	for i, entry := range l {
		l[i] = behind(entry, 99)
	}
	return behind(l, []byte("room"))
}

// roomy is s with room behind each of its lists, in which something stands.
func roomy(s vr.State) vr.State {
	s.Log = roomyLog(s.Log)
	s.Match = behind(s.Match, 77)
	s.Marks = behind(s.Marks, true)
	s.Ballots = slices.Clone(s.Ballots)
	for i, b := range s.Ballots {
		s.Ballots[i].Log = roomyLog(b.Log)
	}
	s.Ballots = behind(s.Ballots, vr.Ballot{Has: true})
	s.Draws = behind(s.Draws, 55)
	return s
}

func roomyEvent(e vr.Event) vr.Event {
	e.Msg.Log = roomyLog(e.Msg.Log)
	e.Data = behind(e.Data, 99)
	return e
}

func allOfLog(l [][]byte) [][]byte {
	l = slices.Clone(l[:cap(l)])
	for i, entry := range l {
		l[i] = slices.Clone(entry[:cap(entry)])
	}
	return l
}

// allOf is s with all that stands in the room behind its lists.
func allOf(s vr.State) vr.State {
	s.Log = allOfLog(s.Log)
	s.Match = slices.Clone(s.Match[:cap(s.Match)])
	s.Marks = slices.Clone(s.Marks[:cap(s.Marks)])
	s.Ballots = slices.Clone(s.Ballots[:cap(s.Ballots)])
	for i, b := range s.Ballots {
		s.Ballots[i].Log = allOfLog(b.Log)
	}
	s.Draws = slices.Clone(s.Draws[:cap(s.Draws)])
	return s
}

func allOfEvent(e vr.Event) vr.Event {
	e.Msg.Log = allOfLog(e.Msg.Log)
	e.Data = slices.Clone(e.Data[:cap(e.Data)])
	return e
}

func wipeLog(l [][]byte) {
	for _, entry := range l {
		clear(entry)
	}
	clear(l)
}

// wipe writes over all that lies in s.
func wipe(s vr.State) {
	wipeLog(s.Log)
	for i := range s.Match {
		s.Match[i] = -7
	}
	for i := range s.Marks {
		s.Marks[i] = !s.Marks[i]
	}
	for _, b := range s.Ballots {
		wipeLog(b.Log)
	}
	clear(s.Ballots)
	clear(s.Draws)
}

func wipeEvent(e vr.Event) {
	wipeLog(e.Msg.Log)
	clear(e.Data)
}

func wipeAnswer(a answer) {
	wipe(a.s)
	for _, m := range a.told {
		wipeLog(m.Log)
	}
	clear(a.told)
}

// eachPair calls look for replicas and events of all kinds, some of them refused.
func eachPair(look func(s vr.State, e vr.Event)) {
	for seed := range 6000 {
		c := chances{rand.New(rand.NewSource(int64(seed)))}
		s := c.state()
		if len(s.Log) > 20 && c.often(90) {
			continue
		}
		if s.Status == 0 && c.often(30) || c.often(10) {
			s.Elapsed, s.Timeout = 2, 3
		}
		e := c.event(s)
		if c.often(5) {
			c.spoilState(&s)
		}
		if c.often(10) {
			// What a refused call was handed must stay, too.
			s.N = 0
		}
		look(s, e)
	}
}

// P19.4: what is handed in is not changed, nor the room behind it.
func TestArgumentsStay(t *testing.T) {
	eachPair(func(s vr.State, e vr.Event) {
		s, e = roomy(s), roomyEvent(e)
		before, beforeEvent := allOf(s), allOfEvent(e)
		made(s, e)
		vr.Check(s)
		if !reflect.DeepEqual(allOf(s), before) || !reflect.DeepEqual(allOfEvent(e), beforeEvent) {
			t.Fatalf("%s, %s: what was handed in has changed: %s, %s", brief(before), brief(beforeEvent), brief(s), brief(e))
		}
	})
	draws := behind([]int{3, 4, 5}, 6)
	vr.New(1, 3, draws)
	if !slices.Equal(draws[:cap(draws)][:6], []int{3, 4, 5, 6, 6, 6}) {
		t.Error("New has changed its draws")
	}
}

// P19.4: answers share no memory with arguments, with each other, nor within one.
func TestAnswersApart(t *testing.T) {
	met := [8]int{}
	eachPair(func(s vr.State, e vr.Event) {
		h := &held{}
		s, e = roomy(s), roomyEvent(e)
		h.addState(s)
		h.addEvent(e)
		for range 2 {
			for _, got := range made(s, e) {
				h.addAnswer(got)
				for _, m := range got.told {
					met[m.Kind] += len(m.Log)
				}
			}
		}
		if !h.apart() {
			t.Fatalf("%s, %s: an answer shares memory", brief(s), brief(e))
		}
	})
	for _, kind := range []int{1, 4, 5, 7} {
		if met[kind] < 50 {
			t.Errorf("messages of Kind %d had only %d entries", kind, met[kind])
		}
	}
	h := &held{}
	draws := []int{1, 2, 3}
	add(h, draws)
	for range 2 {
		s, _ := vr.New(0, 3, draws)
		h.addState(s)
	}
	if !h.apart() {
		t.Error("an answer of New shares memory")
	}
}

// P19.4: lists of one argument that share memory do not make answers that do.
func TestSharedLists(t *testing.T) {
	data := []byte("shared")
	log := [][]byte{data, data[1:4], data}
	ballots := []vr.Ballot{{Has: true, Last: 2, Log: log, Commit: 1}, {}, {Has: true, Last: 1, Log: log, Commit: 1}, {Has: true, Last: 3, Log: log}, {}}
	to := vr.State{ID: 1, N: 5, View: 6, Last: 3, Status: 1, Log: log, Commit: 2, Marks: []bool{true, true, false, false, false}, Ballots: ballots}
	lead := vr.State{ID: 1, N: 5, View: 6, Last: 6, Log: log, Match: []int{0, 3, 0, 1, 0}, Elapsed: 2}
	msg := vr.Msg{From: 2, To: 1, View: 6, Log: log, Prev: 1, Commit: 1}
	of := func(kind, from, view int) vr.Event {
		m := msg
		m.Kind, m.From, m.View = kind, from, view
		return hear(m)
	}
	other := vr.State{ID: 1, N: 5, View: 7, Last: 7, Log: log, Commit: 1}
	for _, c := range []struct {
		s vr.State
		e vr.Event
	}{
		{to, of(3, 2, 6)}, {to, of(4, 2, 6)}, {to, of(4, 2, 11)}, {to, of(5, 2, 7)},
		{lead, tick()}, {lead, vr.Event{Kind: 3, Data: data}}, {lead, of(6, 2, 6)},
		{other, of(1, 2, 7)}, {other, of(7, 0, 7)}, {other, of(7, 0, 8)},
	} {
		h := &held{}
		add(h, data)
		add(h, log)
		add(h, ballots)
		add(h, c.s.Match)
		add(h, c.s.Marks)
		for _, got := range made(c.s, c.e) {
			if got.err != api.OK {
				t.Fatalf("%s, %s: %s", brief(c.s), brief(c.e), errorName(got.err))
			}
			h.addAnswer(got)
		}
		if !h.apart() {
			t.Errorf("%s, %s: an answer shares memory", brief(c.s), brief(c.e))
		}
	}
}

// P19.4 and P3: writing over what was handed in, or over one answer, changes no other one; the same call answers the same again.
func TestAnswersStay(t *testing.T) {
	eachPair(func(s vr.State, e vr.Event) {
		kept, keptEvent := cloned(s), e
		keptEvent.Msg.Log, keptEvent.Data = cloneLog(e.Msg.Log), slices.Clone(e.Data)
		first, second := made(s, e), made(s, e)
		wipe(s)
		wipeEvent(e)
		for _, got := range first {
			wipeAnswer(got)
		}
		if want := made(kept, keptEvent); !slices.EqualFunc(second, want, sameAnswer) {
			t.Fatalf("%s, %s: an answer has changed: %s, want %s", brief(kept), brief(keptEvent), brief(second), brief(want))
		}
	})
}

// emptied is l with empty lists for nil ones.
func emptied[T any](l []T) []T {
	return append([]T{}, l...)
}

func emptiedLog(l [][]byte) [][]byte {
	l = emptied(l)
	for i := range l {
		l[i] = emptied(l[i])
	}
	return l
}

// bared is l with nil lists for empty ones.
func bared[T any](l []T) []T {
	return append([]T(nil), l...)
}

func baredLog(l [][]byte) [][]byte {
	l = bared(l)
	for i := range l {
		l[i] = bared(l[i])
	}
	return l
}

// P1: nil and empty lists are one, and what is answered of them is alike.
func TestNilAndEmpty(t *testing.T) {
	eachPair(func(s vr.State, e vr.Event) {
		empty, bare, emptyEvent, bareEvent := s, s, e, e
		empty.Log, bare.Log = emptiedLog(s.Log), baredLog(s.Log)
		empty.Match, bare.Match = emptied(s.Match), bared(s.Match)
		empty.Marks, bare.Marks = emptied(s.Marks), bared(s.Marks)
		empty.Ballots, bare.Ballots = emptied(s.Ballots), bared(s.Ballots)
		for i, b := range s.Ballots {
			empty.Ballots[i].Log, bare.Ballots[i].Log = emptiedLog(b.Log), baredLog(b.Log)
		}
		empty.Draws, bare.Draws = emptied(s.Draws), bared(s.Draws)
		emptyEvent.Msg.Log, bareEvent.Msg.Log = emptiedLog(e.Msg.Log), baredLog(e.Msg.Log)
		emptyEvent.Data, bareEvent.Data = emptied(e.Data), bared(e.Data)
		if !reflect.DeepEqual(made(empty, emptyEvent), made(bare, bareEvent)) {
			t.Fatalf("%s, %s: calls tell them apart", brief(s), brief(e))
		}
	})
	first, _ := vr.New(1, 3, nil)
	if second, _ := vr.New(1, 3, []int{}); !reflect.DeepEqual(first, second) {
		t.Error("New tells them apart")
	}
}
