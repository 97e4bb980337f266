package vr_test

import (
	"bytes"
	"fmt"
	"slices"
	"strings"

	"undercroft/api"
	"undercroft/vr"
)

// The document's numbers.
const (
	mostNodes   = 9
	mostEntries = 512
	longest     = 256
	highest     = 1 << 40
	mostTicks   = 1 << 30
	mostDraws   = 4096
)

// logOf is a log of these entries.
func logOf(entries ...string) [][]byte {
	var l [][]byte
	for _, e := range entries {
		l = append(l, []byte(e))
	}
	return l
}

// long is a log of n entries that differ.
func long(n int) [][]byte {
	var l [][]byte
	for i := range n {
		l = append(l, fmt.Appendf(nil, "entry %d", i))
	}
	return l
}

// normal is a replica that is normal in a view; a primary knows of itself alone.
func normal(id, n, view, commit int, entries ...string) vr.State {
	s := vr.State{ID: id, N: n, View: view, Last: view, Log: logOf(entries...), Commit: commit, Elapsed: 1, Timeout: 15}
	if view%n == id {
		s.Match = make([]int, n)
		s.Match[id] = len(entries)
	}
	return s
}

// changing is a replica that has begun a view, last normal in another one; it knows of itself alone.
func changing(id, n, view, last, commit int, entries ...string) vr.State {
	s := vr.State{ID: id, N: n, View: view, Last: last, Status: 1, Log: logOf(entries...), Commit: commit, Marks: make([]bool, n), Elapsed: 5, Timeout: 15}
	s.Marks[id] = true
	if view%n == id {
		s.Ballots = make([]vr.Ballot, n)
	}
	return s
}

// with is s, changed by some; what they change of its lists is a copy's.
func with(s vr.State, changes ...func(*vr.State)) vr.State {
	s = cloned(s)
	for _, change := range changes {
		change(&s)
	}
	return s
}

// marked lets others have begun the view, too.
func marked(ids ...int) func(*vr.State) {
	return func(s *vr.State) {
		for _, id := range ids {
			s.Marks[id] = true
		}
	}
}

// matching lets replicas have so much of a primary's log.
func matching(match ...int) func(*vr.State) {
	return func(s *vr.State) { s.Match = match }
}

// drawing gives draws.
func drawing(draws ...int) func(*vr.State) {
	return func(s *vr.State) { s.Draws = draws }
}

// waited sets Elapsed and Timeout.
func waited(elapsed, timeout int) func(*vr.State) {
	return func(s *vr.State) { s.Elapsed, s.Timeout = elapsed, timeout }
}

// polled gives a primary to be another's ballot, or its own.
func polled(id, last, commit int, entries ...string) func(*vr.State) {
	return func(s *vr.State) {
		s.Ballots[id] = vr.Ballot{Has: true, Last: last, Log: logOf(entries...), Commit: commit}
	}
}

// sent has given its ballot.
func sent(s *vr.State) {
	s.Sent = true
}

func cloneLog(l [][]byte) [][]byte {
	l = slices.Clone(l)
	for i := range l {
		l[i] = slices.Clone(l[i])
	}
	return l
}

func cloned(s vr.State) vr.State {
	s.Log = cloneLog(s.Log)
	s.Match = slices.Clone(s.Match)
	s.Marks = slices.Clone(s.Marks)
	s.Ballots = slices.Clone(s.Ballots)
	for i, b := range s.Ballots {
		s.Ballots[i].Log = cloneLog(b.Log)
	}
	s.Draws = slices.Clone(s.Draws)
	return s
}

func sameLog(a, b [][]byte) bool {
	return slices.EqualFunc(a, b, bytes.Equal)
}

// same tells whether two replicas are alike; nil and empty lists are.
func same(a, b vr.State) bool {
	numbers := func(s vr.State) [8]int {
		return [8]int{s.ID, s.N, s.View, s.Last, s.Status, s.Commit, s.Elapsed, s.Timeout}
	}
	alike := func(x, y vr.Ballot) bool {
		return x.Has == y.Has && x.Last == y.Last && sameLog(x.Log, y.Log) && x.Commit == y.Commit
	}
	return numbers(a) == numbers(b) && a.Sent == b.Sent && sameLog(a.Log, b.Log) &&
		slices.Equal(a.Match, b.Match) && slices.Equal(a.Marks, b.Marks) &&
		slices.EqualFunc(a.Ballots, b.Ballots, alike) && slices.Equal(a.Draws, b.Draws)
}

// sameTold tells whether the same messages are told.
func sameTold(a, b []vr.Msg) bool {
	numbers := func(m vr.Msg) [8]int {
		return [8]int{m.Kind, m.From, m.To, m.View, m.Last, m.Prev, m.Commit, m.Match}
	}
	alike := func(x, y vr.Msg) bool { return numbers(x) == numbers(y) && sameLog(x.Log, y.Log) }
	return slices.EqualFunc(a, b, alike)
}

// none tells whether an answer beside an error is none.
func none(s vr.State, told []vr.Msg) bool {
	return same(s, vr.State{}) && len(told) == 0
}

// brief tells what a value is, cut off where it is long.
func brief(v any) string {
	text := fmt.Sprintf("%+v", v)
	if len(text) > 2000 {
		text = strings.ToValidUTF8(text[:2000], "") + " .."
	}
	return text
}

// tick, hear and ask are the events.
func tick() vr.Event {
	return vr.Event{Kind: 1}
}

func hear(m vr.Msg) vr.Event {
	return vr.Event{Kind: 2, Msg: m}
}

func ask(data string) vr.Event {
	return vr.Event{Kind: 3, Data: []byte(data)}
}

// errorName is how the document names an error.
func errorName(err api.Errno) string {
	switch err {
	case api.OK:
		return "OK"
	case api.ErrArg:
		return "ErrArg"
	case api.ErrCount:
		return "ErrCount"
	case api.ErrRange:
		return "ErrRange"
	case api.ErrLong:
		return "ErrLong"
	case api.ErrState:
		return "ErrState"
	case api.ErrKind:
		return "ErrKind"
	case api.ErrFull:
		return "ErrFull"
	}
	return fmt.Sprint(int(err))
}
