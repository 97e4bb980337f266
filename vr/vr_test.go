package vr_test

import (
	"math"
	"slices"
	"strconv"
	"testing"

	"undercroft/api"
	"undercroft/vr"
)

// The faces keep the signatures of the chapter.
var (
	_ func(int, int, []int) (vr.State, api.Errno)              = vr.New
	_ func(vr.State) api.Errno                                 = vr.Check
	_ func(vr.State, vr.Event) (vr.State, []vr.Msg, api.Errno) = vr.Step
	_ func(vr.State) (vr.State, api.Errno)                     = vr.Restart
	_ struct {
		Kind, From, To, View, Last, Prev int
		Log                              [][]byte
		Commit, Match                    int
	} = vr.Msg{}
)

// P19.1: New of replicas in a group of each size.
func TestNew(t *testing.T) {
	for n := 1; n <= mostNodes; n++ {
		for id := range n {
			want := vr.State{ID: id, N: n, Timeout: 10 + id}
			if id == 0 {
				want.Match = make([]int, n)
			}
			if s, err := vr.New(id, n, nil); err != api.OK || !same(s, want) || vr.Check(s) != api.OK {
				t.Errorf("New(%d, %d) = %s, %s", id, n, brief(s), errorName(err))
			}
		}
	}
}

// P19.1: the next timeout, of New, of Restart and of a view that is begun.
func TestTimeout(t *testing.T) {
	for _, c := range []struct {
		draws []int
		want  int
		left  int
	}{
		{nil, 13, 0},
		{[]int{}, 13, 0},
		{[]int{0}, 10, 0},
		{[]int{1, 2, 3}, 11, 2},
		{[]int{9}, 19, 0},
		{[]int{10, 5}, 10, 1},
		{[]int{123456789}, 19, 0},
		{[]int{-1}, 19, 0},
		{[]int{-9}, 11, 0},
		{[]int{-10}, 10, 0},
		{[]int{-13, 4}, 17, 1},
		{[]int{math.MaxInt}, 17, 0},
		{[]int{math.MinInt}, 12, 0},
		{make([]int, mostDraws), 10, mostDraws - 1},
	} {
		left := c.draws[len(c.draws)-c.left:]
		s, err := vr.New(3, 5, c.draws)
		if err != api.OK || s.Timeout != c.want || !slices.Equal(s.Draws, left) {
			t.Errorf("New, %s: %s, %s", brief(c.draws), brief(s), errorName(err))
		}
		old := normal(3, 5, 7, 0)
		old.Draws = c.draws
		s, err = vr.Restart(old)
		if err != api.OK || s.Timeout != c.want || !slices.Equal(s.Draws, left) {
			t.Errorf("Restart, %s: %s, %s", brief(c.draws), brief(s), errorName(err))
		}
		s, _, err = vr.Step(old, hear(vr.Msg{Kind: 3, From: 1, To: 3, View: 9}))
		if err != api.OK || s.View != 9 || s.Timeout != c.want || !slices.Equal(s.Draws, left) {
			t.Errorf("Step, %s: %s, %s", brief(c.draws), brief(s), errorName(err))
		}
	}
}

// P19.1: what New refuses, the range ahead of the count.
func TestNewRefuses(t *testing.T) {
	many := make([]int, mostDraws+1)
	for _, c := range []struct {
		id, n int
		draws []int
		want  api.Errno
	}{
		{0, 0, nil, api.ErrRange},
		{0, -1, nil, api.ErrRange},
		{0, mostNodes + 1, nil, api.ErrRange},
		{-1, 3, nil, api.ErrRange},
		{3, 3, nil, api.ErrRange},
		{mostNodes, mostNodes, nil, api.ErrRange},
		{0, math.MinInt, nil, api.ErrRange},
		{0, math.MaxInt, nil, api.ErrRange},
		{math.MinInt, 3, nil, api.ErrRange},
		{math.MaxInt, 3, nil, api.ErrRange},
		{1 << 32, 1<<32 + 1, nil, api.ErrRange},
		{3, 3, many, api.ErrRange},
		{0, 0, many, api.ErrRange},
		{0, 1, many, api.ErrCount},
		{8, 9, make([]int, 1_000_000), api.ErrCount},
		{8, 9, many[1:], api.OK},
	} {
		s, err := vr.New(c.id, c.n, c.draws)
		if err != c.want || err != api.OK && !same(s, vr.State{}) {
			t.Errorf("New(%d, %d, %d draws) = %s, %s, want %s", c.id, c.n, len(c.draws), brief(s), errorName(err), errorName(c.want))
		}
	}
}

// rightStates holds replicas that may be, those at the edges among them.
func rightStates() map[string]vr.State {
	entry := string(make([]byte, longest))
	all := map[string]vr.State{
		"alone":                      normal(0, 1, 5, 2, "a", "b"),
		"alone, changing":            changing(0, 1, 5, 4, 1, "a", "b"),
		"a primary":                  normal(1, 3, 4, 1, "a", "b"),
		"another one":                normal(0, 3, 4, 1, "a", "b"),
		"another one of nine":        normal(8, 9, 9, 0),
		"a primary of nine":          normal(8, 9, 8, 0),
		"changing":                   changing(0, 3, 4, 3, 1, "a", "b"),
		"changing, sent":             with(changing(0, 3, 4, 3, 1, "a", "b"), marked(1), sent),
		"to be primary":              changing(1, 3, 4, 2, 1, "a", "b"),
		"to be primary, sent":        with(changing(1, 3, 4, 2, 1, "a"), marked(0, 2), sent, polled(1, 2, 1, "a"), polled(2, 3, 0)),
		"to be primary, all ballots": with(changing(1, 3, 4, 2, 0), polled(0, 4, 2, "a", "b"), polled(1, 0, 0), polled(2, highest, 0, entry)),
		"changing in its last view":  changing(2, 3, 4, 4, 0),
		"changing in view 0":         changing(0, 3, 0, 0, 0),
		"the highest view":           normal(1, 5, highest, 0),
		"the highest view, primary":  normal(highest%5, 5, highest, 0),
		"the longest entries":        normal(1, 3, 0, 2, entry, entry, "", "x"),
		"all that it may wait":       with(normal(1, 3, 0, 0), waited(mostTicks, mostTicks)),
		"no wait at all":             with(normal(1, 3, 0, 0), waited(0, 0)),
		"all draws":                  with(normal(1, 3, 0, 0), drawing(make([]int, mostDraws)...)),
		"wild draws":                 with(normal(1, 3, 0, 0), drawing(math.MinInt, math.MaxInt, -1)),
		"a primary with all matches": with(normal(1, 3, 4, 1, "a", "b"), matching(0, mostEntries, 3)),
		"marked by others alone":     with(changing(0, 3, 4, 3, 0), marked(1, 2), func(s *vr.State) { s.Marks[0] = false }),
		"empty lists":                {ID: 1, N: 3, Log: [][]byte{{}, nil}, Match: []int{}, Marks: []bool{}, Ballots: []vr.Ballot{}, Draws: []int{}},
	}
	full := normal(0, 3, 3, 0)
	full.Log, full.Commit, full.Match = long(mostEntries), mostEntries, []int{mostEntries, 0, mostEntries}
	all["a full log"] = full
	voted := changing(0, 3, 3, 2, 0)
	voted.Ballots[2] = vr.Ballot{Has: true, Last: 1, Log: long(mostEntries), Commit: mostEntries}
	all["a full ballot"] = voted
	return all
}

// wrongStates holds replicas that may not be, each by a cause of its own.
func wrongStates() map[string]vr.State {
	all := map[string]vr.State{"zero": {}}
	add := func(name string, s vr.State, change func(*vr.State)) {
		all[name] = with(s, change)
	}
	primary, other := normal(1, 3, 4, 1, "a", "b"), normal(0, 3, 4, 1, "a", "b")
	leaving, elected := changing(0, 3, 4, 2, 1, "a", "b"), with(changing(1, 3, 4, 2, 1, "a", "b"), polled(2, 3, 1, "a"))
	alone := normal(0, 1, 4, 1, "a", "b")
	for _, n := range []int{math.MinInt, -1, 0, mostNodes + 1, math.MaxInt} {
		add("N "+strconv.Itoa(n), other, func(s *vr.State) { s.N = n })
		add("N "+strconv.Itoa(n)+", many matches", primary, func(s *vr.State) { s.N, s.Match = n, make([]int, 10) })
	}
	for _, n := range []int{math.MinInt, -1, 3, 9, math.MaxInt} {
		add("ID "+strconv.Itoa(n), other, func(s *vr.State) { s.ID = n })
		add("ID "+strconv.Itoa(n)+", changing", elected, func(s *vr.State) { s.ID = n })
	}
	for _, n := range []int{math.MinInt, -1, highest + 1, math.MaxInt} {
		for name, s := range map[string]vr.State{"alone": alone, "another": other, "changing": leaving} {
			add("View "+strconv.Itoa(n)+", "+name, s, func(s *vr.State) { s.View, s.Last = n, n })
			add("View "+strconv.Itoa(n)+" alone, "+name, s, func(s *vr.State) { s.View = n })
			add("Last "+strconv.Itoa(n)+", "+name, s, func(s *vr.State) { s.Last = n })
		}
		add("a ballot's Last "+strconv.Itoa(n), elected, func(s *vr.State) { s.Ballots[2].Last = n })
	}
	add("Last above View", leaving, func(s *vr.State) { s.Last = 5 })
	add("Last below View, normal", other, func(s *vr.State) { s.Last = 3 })
	add("Last 0, normal", other, func(s *vr.State) { s.Last = 0 })
	for _, n := range []int{math.MinInt, -1, 2, math.MaxInt} {
		add("Status "+strconv.Itoa(n), other, func(s *vr.State) { s.Status = n })
		add("Status "+strconv.Itoa(n)+", changing", leaving, func(s *vr.State) { s.Status = n })
	}
	for _, n := range []int{math.MinInt, -1, 3, mostEntries, math.MaxInt} {
		add("Commit "+strconv.Itoa(n), other, func(s *vr.State) { s.Commit = n })
		add("a ballot's Commit "+strconv.Itoa(n), elected, func(s *vr.State) { s.Ballots[2].Commit = n })
	}
	for _, n := range []int{math.MinInt, -1, mostTicks + 1, math.MaxInt} {
		add("Elapsed "+strconv.Itoa(n), other, func(s *vr.State) { s.Elapsed = n })
		add("Timeout "+strconv.Itoa(n), other, func(s *vr.State) { s.Timeout = n })
	}
	for _, n := range []int{math.MinInt, -1, mostEntries + 1, math.MaxInt} {
		for id := range 3 {
			add("Match "+strconv.Itoa(n)+" of "+strconv.Itoa(id), primary, func(s *vr.State) { s.Match[id] = n })
		}
	}
	add("too many draws", other, func(s *vr.State) { s.Draws = make([]int, mostDraws+1) })
	addWrongLogs(add, other, elected)
	addWrongLists(add, primary, other, leaving, elected)
	return all
}

func addWrongLogs(add func(string, vr.State, func(*vr.State)), other, elected vr.State) {
	for name, l := range map[string][][]byte{
		"513 entries":     long(mostEntries + 1),
		"a million":       make([][]byte, 1_000_000),
		"a long one":      logOf("a", string(make([]byte, longest+1))),
		"a very long one": logOf(string(make([]byte, 1_000_000)), "b"),
	} {
		add("log: "+name, other, func(s *vr.State) { s.Log = l })
		add("ballot: "+name, elected, func(s *vr.State) { s.Ballots[2].Log = l })
		add("ballot without Has: "+name, elected, func(s *vr.State) { s.Ballots[0].Log = l })
	}
	add("a ballot without Has, with Last", elected, func(s *vr.State) { s.Ballots[0].Last = 1 })
	add("a ballot without Has, with an entry", elected, func(s *vr.State) { s.Ballots[0].Log = logOf("") })
	add("a ballot without Has, with Commit", elected, func(s *vr.State) { s.Ballots[0].Commit = 1 })
	add("a ballot's Has taken", elected, func(s *vr.State) { s.Ballots[2].Has = false })
}

func addWrongLists(add func(string, vr.State, func(*vr.State)), primary, other, leaving, elected vr.State) {
	for name, s := range map[string]vr.State{"another one": other, "changing": leaving, "to be primary": elected} {
		add("matches: "+name, s, func(s *vr.State) { s.Match = make([]int, 3) })
		add("a match: "+name, s, func(s *vr.State) { s.Match = make([]int, 1) })
	}
	for name, s := range map[string]vr.State{"a primary": primary, "another one": other} {
		add("marks: "+name, s, func(s *vr.State) { s.Marks = make([]bool, 3) })
		add("sent: "+name, s, sent)
	}
	for name, s := range map[string]vr.State{"a primary": primary, "another one": other, "changing": leaving} {
		add("ballots: "+name, s, func(s *vr.State) { s.Ballots = make([]vr.Ballot, 3) })
	}
	for name, n := range map[string]int{"no": 0, "two": 2, "four": 4, "a million": 1_000_000} {
		add(name+" matches", primary, func(s *vr.State) { s.Match = make([]int, n) })
		add(name+" marks", leaving, func(s *vr.State) { s.Marks = make([]bool, n) })
		add(name+" marks, to be primary", elected, func(s *vr.State) { s.Marks = make([]bool, n) })
		add(name+" ballots", elected, func(s *vr.State) { s.Ballots = make([]vr.Ballot, n) })
	}
}

// P19.1: Check of replicas at the edges and beyond them; what may not be is refused by all calls, ahead of an event's faults.
func TestCheck(t *testing.T) {
	for name, s := range rightStates() {
		if err := vr.Check(s); err != api.OK || wrong(s) {
			t.Errorf("%s: Check = %s", name, errorName(err))
		}
	}
	for name, s := range wrongStates() {
		if err := vr.Check(s); err != api.ErrState || !wrong(s) {
			t.Errorf("%s: Check = %s", name, errorName(err))
		}
		if got, err := vr.Restart(s); err != api.ErrState || !same(got, vr.State{}) {
			t.Errorf("%s: Restart = %s, %s", name, brief(got), errorName(err))
		}
		for _, e := range []vr.Event{tick(), ask("x"), {}, {Kind: 9}, hear(vr.Msg{}), hear(vr.Msg{Kind: 1, From: 1, To: 0, View: 4})} {
			if got, told, err := vr.Step(s, e); err != api.ErrState || !none(got, told) {
				t.Errorf("%s: Step(%s) = %s, %s, %s", name, brief(e), brief(got), brief(told), errorName(err))
			}
		}
	}
}

// P19.1: what a crash leaves.
func TestRestart(t *testing.T) {
	reset := func(s vr.State, timeout int) vr.State { return with(s, waited(0, timeout)) }
	for name, c := range map[string]struct{ s, want vr.State }{
		"a primary": {
			with(normal(1, 3, 4, 1, "a", "b"), matching(2, 2, 1), drawing(7, 8)),
			reset(with(normal(1, 3, 4, 1, "a", "b"), drawing(8)), 17)},
		"a primary of wrong matches": {
			with(normal(1, 3, 4, 1, "a", "b"), matching(2, 0, 512)),
			reset(normal(1, 3, 4, 1, "a", "b"), 11)},
		"another one": {
			normal(2, 3, 4, 1, "a", "b"),
			reset(normal(2, 3, 4, 1, "a", "b"), 12)},
		"one alone": {
			normal(0, 1, 4, 2, "a", "b"),
			reset(normal(0, 1, 4, 2, "a", "b"), 10)},
		"changing": {
			with(changing(0, 3, 4, 3, 1, "a", "b"), marked(1, 2), sent),
			reset(changing(0, 3, 4, 3, 1, "a", "b"), 10)},
		"changing, not by its own mark": {
			with(changing(0, 3, 4, 3, 1, "a"), marked(2), func(s *vr.State) { s.Marks[0] = false }),
			reset(changing(0, 3, 4, 3, 1, "a"), 10)},
		"to be primary": {
			with(changing(1, 3, 4, 2, 1, "a"), marked(0, 2), sent, polled(1, 2, 1, "a"), drawing(-1)),
			reset(changing(1, 3, 4, 2, 1, "a"), 19)},
		"changing in its last view": {
			changing(0, 3, 4, 4, 1, "a"),
			reset(normal(0, 3, 4, 1, "a"), 10)},
		"to be primary in its last view": {
			with(changing(1, 3, 4, 4, 1, "a", "b"), polled(0, 3, 0)),
			reset(normal(1, 3, 4, 1, "a", "b"), 11)},
	} {
		got, err := vr.Restart(c.s)
		if err != api.OK || !same(got, c.want) {
			t.Errorf("%s: Restart = %s, %s, want %s", name, brief(got), errorName(err), brief(c.want))
		}
	}
	for _, s := range rightStates() {
		restarted(t, s)
	}
}
