package vr

import (
	"slices"

	"undercroft/api"
)

// What Status tells.
const (
	normal = iota
	changing
)

const (
	maxEntry = 256
	maxTicks = 1 << 30
)

// A timeout is leastTimeout, and less than drawSpread more.
const (
	leastTimeout = 10
	drawSpread   = 10
)

func mayBe(s State) bool {
	if !within(1, api.MaxNodes, s.N) || !within(0, s.N-1, s.ID) || !within(0, api.MaxView, s.View) {
		return false
	}
	if !within(0, s.View, s.Last) || !within(normal, changing, s.Status) || s.Status == normal && s.Last != s.View {
		return false
	}
	// All zero without Has.
	wrong := func(b Ballot) bool {
		return !within(0, api.MaxView, b.Last) || !mayLog(b.Log, b.Commit) || !b.Has && (b.Last > 0 || len(b.Log) > 0)
	}
	return mayLog(s.Log, s.Commit) && hasItsLists(s) &&
		within(0, api.MaxLog, s.Match...) && !slices.ContainsFunc(s.Ballots, wrong) &&
		within(0, maxTicks, s.Elapsed, s.Timeout) && len(s.Draws) <= api.MaxEvents
}

func mayLog(log [][]byte, commit int) bool {
	return len(log) <= api.MaxLog && !slices.ContainsFunc(log, tooLong) && within(0, len(log), commit)
}

func tooLong(entry []byte) bool {
	return len(entry) > maxEntry
}

// hasItsLists tells whether s, whose numbers may be, has the lists that its status asks for, and no others.
func hasItsLists(s State) bool {
	fresh := s
	fresh.renew()
	if s.Sent && s.Status == normal {
		return false
	}
	return len(s.Match) == len(fresh.Match) && len(s.Marks) == len(fresh.Marks) && len(s.Ballots) == len(fresh.Ballots)
}

// renew begins s's view and status anew: the lists that they ask for know of s itself alone.
func (s *State) renew() {
	s.Match, s.Marks, s.Sent, s.Ballots = nil, nil, false, nil
	switch primary := s.ID == s.primary(); {
	case primary && s.Status == changing:
		s.Ballots = make([]Ballot, s.N)
		fallthrough
	case s.Status == changing:
		s.Marks = make([]bool, s.N)
		s.Marks[s.ID] = true
	case primary:
		s.Match = make([]int, s.N)
		s.Match[s.ID] = len(s.Log)
	}
	s.Elapsed = 0
}

// draw takes the next timeout.
func (s *State) draw() {
	s.Timeout = leastTimeout + s.ID
	if len(s.Draws) > 0 {
		s.Timeout = leastTimeout + (s.Draws[0]%drawSpread+drawSpread)%drawSpread
		s.Draws = s.Draws[1:]
	}
}

func (s *State) primary() int {
	return s.primaryOf(s.View)
}

func (s *State) primaryOf(view int) int {
	return view % s.N
}

func (s *State) normalIn(view int) bool {
	return s.Status == normal && s.View == view
}

// leads tells whether s is a normal primary.
func (s *State) leads() bool {
	return s.Status == normal && s.ID == s.primary()
}

func (s *State) majority(n int) bool {
	return 2*n > s.N
}

// copied is s, which may be, in memory of its own.
func copied(s State) State {
	s.Log = copiedLog(s.Log)
	s.Match = copiedList(s.Match)
	s.Marks = copiedList(s.Marks)
	s.Ballots = copiedList(s.Ballots)
	for i, b := range s.Ballots {
		s.Ballots[i].Log = copiedLog(b.Log)
	}
	s.Draws = copiedList(s.Draws)
	return s
}

func copiedLog(log [][]byte) [][]byte {
	list := copiedList(log)
	for i, entry := range list {
		list[i] = copiedList(entry)
	}
	return list
}

// copiedList answers nil for no items, so that nil and empty lists make the same answer.
func copiedList[T any](list []T) []T {
	return append([]T(nil), list...)
}
