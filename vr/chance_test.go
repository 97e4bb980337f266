package vr_test

import (
	"fmt"
	"math"
	"math/rand"
	"strings"
	"testing"

	"undercroft/api"
	"undercroft/vr"
)

// chances makes replicas and events that no calls have made.
type chances struct {
	*rand.Rand
}

// often tells true in so many of a hundred.
func (c chances) often(percent int) bool {
	return c.Intn(100) < percent
}

// entries is a log of n entries; many of those in one place are alike.
func (c chances) entries(n int) [][]byte {
	l := make([][]byte, n)
	odd := c.often(30)
	for i := range l {
		l[i] = fmt.Appendf(nil, "%d", i)
		if odd && c.often(20) {
			l[i] = nil
		}
	}
	return l
}

func (c chances) length() int {
	if c.often(4) {
		return mostEntries - c.Intn(9)
	}
	return c.Intn(7)
}

func (c chances) log() [][]byte {
	return c.entries(c.length())
}

// state is a replica that may be.
func (c chances) state() vr.State {
	n := 1 + c.Intn(5)
	if c.often(10) {
		n = 1 + c.Intn(mostNodes)
	}
	s := vr.State{ID: c.Intn(n), N: n, View: c.Intn(3 * n), Log: c.log()}
	if c.often(5) {
		s.View = highest - c.Intn(3)
	}
	s.Last, s.Commit = s.View, c.Intn(len(s.Log)+1)
	if c.often(60) {
		s.Status, s.Last = 1, c.Intn(s.View+1)
	}
	s.Elapsed, s.Timeout = c.Intn(4), c.Intn(6)
	if c.often(5) {
		s.Elapsed, s.Timeout = mostTicks-c.Intn(2), mostTicks-c.Intn(2)
	}
	for range c.Intn(3) {
		s.Draws = append(s.Draws, c.Intn(100)-50)
	}
	c.addLists(&s)
	return s
}

// addLists gives s the lists that its status asks for.
func (c chances) addLists(s *vr.State) {
	primary := s.View%s.N == s.ID
	for id := range s.N {
		if s.Status == 0 && primary {
			s.Match = append(s.Match, min(c.Intn(len(s.Log)+1)+c.Intn(2)*c.Intn(2), mostEntries))
		}
		if s.Status == 1 {
			s.Marks = append(s.Marks, c.often(40) || id == s.ID)
		}
		if s.Status == 1 && primary {
			b := vr.Ballot{}
			if c.often(40) {
				b = vr.Ballot{Has: true, Last: s.Last + c.Intn(2), Log: c.log()}
				b.Commit = c.Intn(len(b.Log) + 1)
			}
			s.Ballots = append(s.Ballots, b)
		}
	}
	s.Sent = s.Status == 1 && c.often(30)
}

// near is a number that lies near one of some.
func (c chances) near(numbers ...int) int {
	return numbers[c.Intn(len(numbers))] + c.Intn(3) - 1
}

// msg is a message for s, of all kinds; most of them may be.
func (c chances) msg(s vr.State) vr.Msg {
	m := vr.Msg{Kind: 1 + c.Intn(7), To: s.ID, From: c.Intn(s.N), View: s.View}
	if c.often(30) {
		m.View = max(0, min(s.View+c.Intn(2*s.N+2)-1, highest))
	}
	if m.From == s.ID {
		m.From = (s.ID + 1) % s.N
	}
	if primary := m.View % s.N; c.often(70) && primary != s.ID {
		m.From = primary
	}
	if m.Kind == 4 && c.often(80) {
		// For a ballot s has to be the primary.
		m.View += (s.ID - m.View%s.N + s.N) % s.N
	}
	m.Log = c.log()
	m.Last = c.near(s.Last, m.View, m.View)
	if m.Kind == 4 && c.often(70) {
		m.Last = max(0, m.View-1-c.Intn(3))
	}
	m.Prev, m.Commit, m.Match = c.near(len(s.Log), s.Commit, 1), c.near(len(m.Log), s.Commit, 1), c.near(len(s.Log), 1)
	if c.often(70) {
		m.Prev, m.Commit, m.Match = max(m.Prev, 0), max(m.Commit, 0), max(m.Match, 0)
	}
	if c.often(4) {
		c.spoil(&m)
	}
	return m
}

// spoil makes a message one that may not be.
func (c chances) spoil(m *vr.Msg) {
	wild := []int{math.MinInt, -1, 0, 8, 9, mostEntries + 1, highest + 1, math.MaxInt}[c.Intn(8)]
	switch c.Intn(9) {
	case 0:
		m.Kind = wild
	case 1:
		m.From = wild
	case 2:
		m.To = wild
	case 3:
		m.View = wild
	case 4:
		m.Last = wild
	case 5:
		m.Prev, m.Commit = wild, 0
	case 6:
		m.Commit, m.Match = wild, wild
	case 7:
		m.Log = c.entries(mostEntries + 1)
	case 8:
		m.Log = append(m.Log, make([]byte, longest+1))
	}
}

func (c chances) event(s vr.State) vr.Event {
	switch n := c.Intn(20); n {
	case 0, 1:
		return tick()
	case 2:
		return ask(strings.Repeat("d", c.Intn(4)*c.Intn(100)))
	case 3:
		return vr.Event{Kind: c.Intn(100) - 50, Msg: c.msg(s), Data: []byte("d")}
	}
	return hear(c.msg(s))
}

// hold holds a step to the plain reading.
func hold(t *testing.T, s vr.State, e vr.Event) (vr.State, api.Errno) {
	t.Helper()
	want, wantTold, wantErr := plainStep(s, e)
	got, told, err := vr.Step(s, e)
	if err != wantErr || !same(got, want) || !sameTold(told, wantTold) {
		t.Fatalf("%s, %s: Step = %s, %s, %s; want %s, %s, %s", brief(s), brief(e),
			brief(got), brief(told), errorName(err), brief(want), brief(wantTold), errorName(wantErr))
	}
	if err == api.OK {
		follows(t, s, got, e)
	}
	return got, err
}

// P19.2, P19.3: steps of replicas and events by chance, held to a plain reading of the chapter.
func TestStepByChance(t *testing.T) {
	met := map[string]int{}
	for seed := range 4000 {
		c := chances{rand.New(rand.NewSource(int64(seed)))}
		s := c.state()
		if err := vr.Check(s); err != api.OK || wrong(s) {
			t.Fatalf("%s may not be: %s", brief(s), errorName(err))
		}
		for range 25 {
			e := c.event(s)
			next, err := hold(t, s, e)
			name := fmt.Sprint("event ", e.Kind)
			if e.Kind == 2 {
				name = fmt.Sprint("message ", e.Msg.Kind)
			}
			met[name+" "+errorName(err)]++
			if err != api.OK {
				continue
			}
			if next.Status != s.Status {
				met[fmt.Sprintf("%s to %d", name, next.Status)]++
			}
			if next.Commit > s.Commit {
				met[name+" commits"]++
			}
			if c.often(80) {
				s = next
			}
			restarted(t, s)
		}
	}
	for _, name := range []string{
		"event 1 OK", "event 1 ErrRange", "event 1 to 1", "event 3 OK", "event 3 ErrState", "event 3 ErrLong", "event 3 ErrFull", "event 3 commits", "event 0 ErrKind", "event 4 ErrKind",
		"message 0 ErrArg", "message 8 ErrArg", "message 1 ErrArg", "message 1 ErrCount", "message 1 ErrLong", "message 1 ErrRange",
		"message 1 OK", "message 1 ErrState", "message 1 ErrFull", "message 1 to 1", "message 1 commits",
		"message 2 OK", "message 2 ErrRange", "message 2 commits", "message 3 OK", "message 3 to 1", "message 3 to 0",
		"message 4 OK", "message 4 ErrState", "message 4 ErrRange", "message 4 to 0", "message 4 to 1", "message 4 commits",
		"message 5 OK", "message 5 ErrState", "message 5 ErrRange", "message 5 to 0", "message 5 commits", "message 6 OK",
		"message 7 OK", "message 7 ErrRange", "message 7 ErrState", "message 7 ErrFull", "message 7 to 0", "message 7 commits",
	} {
		if met[name] < 5 {
			t.Errorf("%s: met only %d times", name, met[name])
		}
	}
}

// restarted holds what a crash leaves to the plain reading.
func restarted(t *testing.T, s vr.State) {
	t.Helper()
	want, wantErr := plainRestart(s)
	got, err := vr.Restart(s)
	if err != wantErr || !same(got, want) {
		t.Fatalf("%s: Restart = %s, %s; want %s, %s", brief(s), brief(got), errorName(err), brief(want), errorName(wantErr))
	}
	if err == api.OK {
		follows(t, s, got, vr.Event{})
	}
}

// spoilState makes one thing of a replica another, so that it may or may not be.
func (c chances) spoilState(s *vr.State) {
	wild := []int{math.MinInt, -1, 0, 1, 2, mostEntries, mostEntries + 1, mostTicks, mostTicks + 1, highest, highest + 1, math.MaxInt}[c.Intn(12)]
	switch c.Intn(18) {
	case 0:
		s.ID = wild
	case 1:
		s.N = c.Intn(12) - 1
	case 2:
		s.View = wild
	case 3:
		s.Last = c.near(wild&math.MaxInt/2, s.View)
	case 4:
		s.Status = c.Intn(5) - 1
	case 5:
		s.Log = append(s.Log, make([]byte, longest+c.Intn(2)))
	case 6:
		s.Log = c.entries(mostEntries + c.Intn(2))
	case 7:
		s.Commit = c.near(len(s.Log), wild&math.MaxInt/2)
	case 8:
		s.Match = append(s.Match, wild)
	case 9:
		s.Marks = append(s.Marks, true)
	case 10:
		s.Sent = !s.Sent
	case 11:
		s.Ballots = append(s.Ballots, vr.Ballot{Has: true})
	case 12:
		s.Elapsed = wild
	case 13:
		s.Timeout = wild
	case 14:
		s.Draws = make([]int, mostDraws+c.Intn(2))
	default:
		c.spoilLists(s, wild)
	}
}

// spoilLists does so to an item of one of the lists, where there is one.
func (c chances) spoilLists(s *vr.State, wild int) {
	if len(s.Match) > 0 {
		s.Match[c.Intn(len(s.Match))] = wild
	}
	if len(s.Ballots) == 0 {
		return
	}
	b := &s.Ballots[c.Intn(len(s.Ballots))]
	switch c.Intn(5) {
	case 0:
		b.Last = wild
	case 1:
		b.Commit = c.near(len(b.Log), wild&math.MaxInt/2)
	case 2:
		b.Has = !b.Has
	case 3:
		b.Log = c.entries(mostEntries + c.Intn(2))
	case 4:
		b.Log = append(b.Log, make([]byte, longest+c.Intn(2)))
	}
}

// P19.1: Check of replicas by chance, with one thing or more spoilt.
func TestCheckByChance(t *testing.T) {
	met := map[bool]int{}
	for seed := range 20000 {
		c := chances{rand.New(rand.NewSource(int64(seed)))}
		s := c.state()
		for range 1 + c.Intn(2) {
			c.spoilState(&s)
		}
		want := api.OK
		if wrong(s) {
			want = api.ErrState
		}
		if err := vr.Check(s); err != want {
			t.Fatalf("%s: Check = %s, want %s", brief(s), errorName(err), errorName(want))
		}
		if want != api.OK || c.often(10) {
			hold(t, s, []vr.Event{tick(), ask("d"), {}, hear(vr.Msg{Kind: 1})}[c.Intn(4)])
			restarted(t, s)
		}
		met[want == api.OK]++
	}
	if met[true] < 2000 || met[false] < 2000 {
		t.Errorf("met %v", met)
	}
}
