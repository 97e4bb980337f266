package vr_test

import (
	"bytes"
	"sort"

	"undercroft/api"
	"undercroft/vr"
)

// What stands here reads the chapter plainly, sentence by sentence.

// wrong tells whether s may not be.
func wrong(s vr.State) bool {
	entries := func(l [][]byte) bool {
		for _, e := range l {
			if len(e) > longest {
				return false
			}
		}
		return len(l) <= mostEntries
	}
	if s.N < 1 || s.N > mostNodes || s.ID < 0 || s.ID > s.N-1 || s.View < 0 || s.View > highest || s.Last < 0 || s.Last > s.View {
		return true
	}
	if s.Status != 0 && s.Status != 1 || s.Status == 0 && s.Last != s.View {
		return true
	}
	if !entries(s.Log) || s.Commit < 0 || s.Commit > len(s.Log) {
		return true
	}
	primary, match, marks, ballots := s.View%s.N == s.ID, 0, 0, 0
	if s.Status == 0 && primary {
		match = s.N
	}
	if s.Status == 1 {
		marks = s.N
	}
	if s.Status == 1 && primary {
		ballots = s.N
	}
	if len(s.Match) != match || len(s.Marks) != marks || len(s.Ballots) != ballots || s.Sent && s.Status == 0 {
		return true
	}
	for _, n := range s.Match {
		if n < 0 || n > mostEntries {
			return true
		}
	}
	for _, b := range s.Ballots {
		if !entries(b.Log) || b.Last < 0 || b.Last > highest || b.Commit < 0 || b.Commit > len(b.Log) {
			return true
		}
		if !b.Has && (b.Last != 0 || len(b.Log) != 0 || b.Commit != 0) {
			return true
		}
	}
	return s.Elapsed < 0 || s.Elapsed > mostTicks || s.Timeout < 0 || s.Timeout > mostTicks || len(s.Draws) > mostDraws
}

// reader is a replica, what it has told, and the error that ended its step.
type reader struct {
	s    vr.State
	told []vr.Msg
	err  api.Errno
}

func plainNew(id, n int, draws []int) (vr.State, api.Errno) {
	if n < 1 || n > 9 || id < 0 || id > n-1 {
		return vr.State{}, api.ErrRange
	}
	if len(draws) > 4096 {
		return vr.State{}, api.ErrCount
	}
	r := reader{s: vr.State{ID: id, N: n, Draws: append([]int{}, draws...)}}
	if id == 0 {
		r.s.Match = make([]int, n)
	}
	r.nextTimeout()
	return r.s, api.OK
}

func plainRestart(s vr.State) (vr.State, api.Errno) {
	if wrong(s) {
		return vr.State{}, api.ErrState
	}
	s = cloned(s)
	r := reader{s: vr.State{ID: s.ID, N: s.N, View: s.View, Last: s.Last, Log: s.Log, Commit: s.Commit, Draws: s.Draws}}
	primary := s.View%s.N == s.ID
	if s.Last == s.View {
		if primary {
			r.s.Match = make([]int, s.N)
			r.s.Match[s.ID] = len(s.Log)
		}
	} else {
		r.s.Status = 1
		r.s.Marks = make([]bool, s.N)
		r.s.Marks[s.ID] = true
		if primary {
			// Ballots that are not there: a replica without them might not be.
			r.s.Ballots = make([]vr.Ballot, s.N)
		}
	}
	r.nextTimeout()
	return r.s, api.OK
}

func plainStep(s vr.State, e vr.Event) (vr.State, []vr.Msg, api.Errno) {
	if wrong(s) {
		return vr.State{}, nil, api.ErrState
	}
	r := &reader{s: cloned(s)}
	switch e.Kind {
	case 1:
		r.tick()
	case 2:
		r.message(e.Msg)
	case 3:
		r.request(e.Data)
	default:
		r.err = api.ErrKind
	}
	if r.err != api.OK {
		return vr.State{}, nil, r.err
	}
	return r.s, r.told, api.OK
}

func (r *reader) nextTimeout() {
	if len(r.s.Draws) == 0 {
		r.s.Timeout = r.s.ID + 10
		return
	}
	n := r.s.Draws[0] % 10
	if n < 0 {
		n += 10
	}
	r.s.Timeout, r.s.Draws = n+10, r.s.Draws[1:]
}

func (r *reader) send(m vr.Msg) {
	m.From, m.View, m.Log = r.s.ID, r.s.View, cloneLog(m.Log)
	r.told = append(r.told, m)
}

func (r *reader) sendAll(m vr.Msg) {
	for m.To = range r.s.N {
		if m.To != r.s.ID {
			r.send(m)
		}
	}
}

func (r *reader) isPrimary() bool {
	return r.s.View%r.s.N == r.s.ID
}

// changes is 'it changes to', up to the messages.
func (r *reader) changes(v int) {
	r.s.View, r.s.Status, r.s.Match, r.s.Sent, r.s.Ballots = v, 1, nil, false, nil
	r.s.Marks = make([]bool, r.s.N)
	r.s.Marks[r.s.ID] = true
	if r.isPrimary() {
		r.s.Ballots = make([]vr.Ballot, r.s.N)
	}
	r.s.Elapsed = 0
	r.nextTimeout()
}

func (r *reader) looks() {
	marks := 0
	for _, mark := range r.s.Marks {
		if mark {
			marks++
		}
	}
	if r.s.Status != 1 || r.s.Sent || marks < r.s.N/2+1 {
		return
	}
	r.s.Sent = true
	if !r.isPrimary() {
		r.send(vr.Msg{Kind: 4, To: r.s.View % r.s.N, Last: r.s.Last, Log: r.s.Log, Commit: r.s.Commit})
		return
	}
	r.s.Ballots[r.s.ID] = vr.Ballot{Has: true, Last: r.s.Last, Log: cloneLog(r.s.Log), Commit: r.s.Commit}
	r.starts()
}

// starts is 'it starts', if it may.
func (r *reader) starts() {
	var l []vr.Ballot
	for _, b := range r.s.Ballots {
		if b.Has {
			l = append(l, b)
		}
	}
	if len(l) < r.s.N/2+1 || !r.s.Ballots[r.s.ID].Has {
		return
	}
	commit := r.s.Commit
	for _, b := range l {
		if b.Commit > commit {
			commit = b.Commit
		}
	}
	sort.SliceStable(l, func(i, j int) bool {
		if l[i].Last != l[j].Last {
			return l[i].Last > l[j].Last
		}
		return len(l[i].Log) > len(l[j].Log)
	})
	log := l[0].Log
	if !r.keeps(log) {
		r.err = api.ErrState
		return
	}
	if commit > len(log) {
		commit = len(log)
	}
	r.s.Log, r.s.Commit, r.s.Status, r.s.Last = log, commit, 0, r.s.View
	r.s.Match = make([]int, r.s.N)
	r.s.Match[r.s.ID] = len(log)
	r.s.Marks, r.s.Ballots, r.s.Sent, r.s.Elapsed = nil, nil, false, 0
	r.sendAll(vr.Msg{Kind: 5, Log: log, Commit: commit})
	r.settles()
}

// keeps tells whether what is committed begins that log.
func (r *reader) keeps(log [][]byte) bool {
	for i, e := range r.s.Log[:r.s.Commit] {
		if i >= len(log) || !bytes.Equal(e, log[i]) {
			return false
		}
	}
	return true
}

func (r *reader) settles() {
	has := append([]int{}, r.s.Match...)
	sort.Ints(has)
	// So many replicas, and those behind it, are the least majority.
	n := has[r.s.N-(r.s.N/2+1)]
	// The state that follows may be: nothing is committed that is not there.
	if n > len(r.s.Log) {
		n = len(r.s.Log)
	}
	if n > r.s.Commit {
		r.s.Commit = n
	}
}

func (r *reader) tick() {
	r.s.Elapsed++
	if r.s.Status == 0 && r.isPrimary() {
		if r.s.Elapsed < 3 {
			return
		}
		r.s.Elapsed = 0
		for id := range r.s.N {
			if id == r.s.ID {
				continue
			}
			m := vr.Msg{Kind: 1, To: id, Prev: r.s.Match[id], Commit: r.s.Commit}
			for i := m.Prev; i < len(r.s.Log) && i < m.Prev+8; i++ {
				m.Log = append(m.Log, r.s.Log[i])
			}
			r.send(m)
		}
		return
	}
	if r.s.Elapsed >= r.s.Timeout {
		if r.s.View == highest {
			r.err = api.ErrRange
			return
		}
		r.changes(r.s.View + 1)
		r.sendAll(vr.Msg{Kind: 3})
		r.looks()
	}
}

func (r *reader) request(data []byte) {
	switch {
	case r.s.Status != 0 || !r.isPrimary():
		r.err = api.ErrState
	case len(data) > longest:
		r.err = api.ErrLong
	case len(r.s.Log) == mostEntries:
		r.err = api.ErrFull
	default:
		r.s.Log = append(r.s.Log, append([]byte{}, data...))
		r.s.Match[r.s.ID] = len(r.s.Log)
		r.settles()
	}
}

// fault is what is wrong with a message of any kind.
func (r *reader) fault(m vr.Msg) api.Errno {
	isReplica := func(n int) bool { return n >= 0 && n <= r.s.N-1 }
	if m.Kind < 1 || m.Kind > 7 || !isReplica(m.From) || !isReplica(m.To) || m.To != r.s.ID || m.From == r.s.ID || m.View < 0 || m.View > highest {
		return api.ErrArg
	}
	if len(m.Log) > mostEntries {
		return api.ErrCount
	}
	for _, e := range m.Log {
		if len(e) > longest {
			return api.ErrLong
		}
	}
	for _, n := range []int{m.Prev, m.Commit, m.Match} {
		if n < 0 || n > 512 {
			return api.ErrRange
		}
	}
	return api.OK
}

func (r *reader) message(m vr.Msg) {
	if r.err = r.fault(m); r.err != api.OK || m.View < r.s.View {
		return
	}
	switch m.Kind {
	case 1:
		r.prepare(m)
	case 2:
		r.answered(m)
	case 3:
		r.begun(m)
	case 4:
		r.ballot(m)
	case 5:
		r.started(m)
	case 6:
		r.asked(m)
	case 7:
		r.brought(m)
	}
}

func (r *reader) prepare(m vr.Msg) {
	primary := m.View % r.s.N
	if m.From != primary || r.s.ID == primary {
		r.err = api.ErrState
		return
	}
	if r.s.Status != 0 || r.s.View != m.View {
		if r.s.View < m.View {
			r.changes(m.View)
		}
		r.s.Elapsed = 0
		r.send(vr.Msg{Kind: 6, To: m.From, Prev: r.s.Commit})
		return
	}
	r.s.Elapsed = 0
	if m.Prev > len(r.s.Log) {
		r.send(vr.Msg{Kind: 6, To: m.From, Prev: len(r.s.Log)})
		return
	}
	r.appends(m)
}

// appends is how Kind 1 appends, with its answer.
func (r *reader) appends(m vr.Msg) {
	for i, e := range cloneLog(m.Log) {
		if m.Prev+i < len(r.s.Log) {
			continue
		}
		if len(r.s.Log) == mostEntries {
			r.err = api.ErrFull
			return
		}
		r.s.Log = append(r.s.Log, e)
	}
	lesser := m.Commit
	if len(r.s.Log) < lesser {
		lesser = len(r.s.Log)
	}
	if lesser > r.s.Commit {
		r.s.Commit = lesser
	}
	r.send(vr.Msg{Kind: 2, To: m.From, Match: len(r.s.Log)})
}

func (r *reader) answered(m vr.Msg) {
	if r.s.Status != 0 || !r.isPrimary() || r.s.View != m.View {
		return
	}
	if m.Match > len(r.s.Log) {
		r.err = api.ErrRange
		return
	}
	if m.Match > r.s.Match[m.From] {
		r.s.Match[m.From] = m.Match
	}
	r.settles()
}

func (r *reader) begun(m vr.Msg) {
	if r.s.View < m.View {
		r.changes(m.View)
		r.sendAll(vr.Msg{Kind: 3})
		r.s.Marks[m.From] = true
		r.looks()
	} else if r.s.Status == 1 {
		r.s.Marks[m.From] = true
		r.looks()
	}
}

func (r *reader) ballot(m vr.Msg) {
	if m.View%r.s.N != r.s.ID {
		r.err = api.ErrState
		return
	}
	if m.Commit > len(m.Log) || m.Last > m.View {
		r.err = api.ErrRange
		return
	}
	if r.s.View < m.View {
		r.changes(m.View)
		r.sendAll(vr.Msg{Kind: 3})
		r.looks()
	}
	if r.s.Status != 1 {
		return
	}
	// A ballot of a Last below 0 may not be.
	if m.Last >= m.View || m.Last < 0 {
		r.err = api.ErrRange
		return
	}
	r.s.Ballots[m.From] = vr.Ballot{Has: true, Last: m.Last, Log: cloneLog(m.Log), Commit: m.Commit}
	r.starts()
}

func (r *reader) started(m vr.Msg) {
	primary := m.View % r.s.N
	switch {
	case m.From != primary || r.s.ID == primary:
		r.err = api.ErrState
	case m.Commit > len(m.Log):
		r.err = api.ErrRange
	case r.s.View == m.View && r.s.Status == 0:
		r.send(vr.Msg{Kind: 2, To: m.From, Match: len(r.s.Log)})
	default:
		r.takes(m.View, m.Log, m.Commit)
	}
}

// takes is what Kind 5 and Kind 7 do to one that is not normal in that view.
func (r *reader) takes(view int, log [][]byte, commit int) {
	if !r.keeps(log) {
		r.err = api.ErrState
		return
	}
	r.s.View, r.s.Last, r.s.Status, r.s.Log = view, view, 0, cloneLog(log)
	if commit > r.s.Commit {
		r.s.Commit = commit
	}
	r.s.Marks, r.s.Sent, r.s.Ballots, r.s.Match, r.s.Elapsed = nil, false, nil, nil, 0
	r.send(vr.Msg{Kind: 2, To: view % r.s.N, Match: len(log)})
}

func (r *reader) asked(m vr.Msg) {
	if r.s.Status == 0 && r.s.View == m.View && m.Prev <= len(r.s.Log) {
		r.send(vr.Msg{Kind: 7, To: m.From, Prev: m.Prev, Log: r.s.Log[m.Prev:], Commit: r.s.Commit})
	}
}

func (r *reader) brought(m vr.Msg) {
	primary := m.View%r.s.N == r.s.ID
	if m.Commit > m.Prev+len(m.Log) {
		r.err = api.ErrRange
		return
	}
	if r.s.Status == 0 && r.s.View == m.View {
		if primary {
			r.err = api.ErrState
		} else if m.Prev <= len(r.s.Log) {
			r.appends(m)
		}
		return
	}
	if m.Prev > r.s.Commit {
		return
	}
	if primary {
		r.err = api.ErrState
		return
	}
	log := append(cloneLog(r.s.Log[:m.Prev]), m.Log...)
	if len(log) > mostEntries {
		r.err = api.ErrFull
		return
	}
	r.takes(m.View, log, m.Commit)
}
