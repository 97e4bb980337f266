package vr

import (
	"bytes"
	"cmp"
	"slices"

	"undercroft/api"
)

// What an event is.
const (
	_ = iota
	aTick
	aMessage
	aRequest
)

// pace is after how many ticks a primary is heard again, and batch how many entries it tells at most.
const (
	pace  = 3
	batch = 8
)

// step is a replica on its way, and the messages that it has told.
type step struct {
	State
	told []Msg
}

func (w *step) do(e Event) {
	refuse(api.ErrKind, !within(aTick, aRequest, e.Kind))
	does := [...]func(*step, Event){aTick: (*step).tick, aMessage: (*step).hear, aRequest: (*step).request}
	does[e.Kind](w, e)
}

func (w *step) tick(Event) {
	w.Elapsed++
	switch {
	case w.leads():
		w.leadOn()
	case w.Elapsed >= w.Timeout:
		refuse(api.ErrRange, w.View == api.MaxView)
		w.changeTo(w.View + 1)
	}
}

// leadOn tells each other replica what it lacks, when it is time to.
func (w *step) leadOn() {
	if w.Elapsed < pace {
		return
	}
	w.Elapsed = 0
	for _, other := range w.others() {
		prev := w.Match[other]
		lacks := w.Log[min(prev, len(w.Log)):]
		w.tell(Msg{Kind: prepares, Prev: prev, Log: lacks[:min(batch, len(lacks))], Commit: w.Commit}, other)
	}
}

func (w *step) request(e Event) {
	refuse(api.ErrState, !w.leads())
	refuse(api.ErrLong, tooLong(e.Data))
	refuse(api.ErrFull, len(w.Log) == api.MaxLog)
	w.Log = append(w.Log, copiedList(e.Data))
	w.Match[w.ID] = len(w.Log)
	w.settle()
}

// tell sends m to each of these, from w and of its view, in memory of its own.
func (w *step) tell(m Msg, to ...int) {
	for _, other := range to {
		one := m
		one.From, one.To, one.View = w.ID, other, w.View
		one.Log = copiedLog(m.Log)
		w.told = append(w.told, one)
	}
}

func (w *step) others() []int {
	var list []int
	for id := range w.N {
		if id != w.ID {
			list = append(list, id)
		}
	}
	return list
}

// changeTo leaves the view that w is in for a higher one, of which it knows who has begun it besides.
func (w *step) changeTo(view int, begun ...int) {
	w.enter(view)
	w.tell(Msg{Kind: begins}, w.others()...)
	for _, other := range begun {
		w.Marks[other] = true
	}
	w.look()
}

func (w *step) enter(view int) {
	w.View, w.Status = view, changing
	w.renew()
	w.draw()
}

// look gives w's ballot, once enough have begun this view.
func (w *step) look() {
	begun := count(w.Marks, func(mark bool) bool { return mark })
	if w.Sent || !w.majority(begun) {
		return
	}
	w.Sent = true
	if w.ID != w.primary() {
		w.tell(Msg{Kind: votes, Last: w.Last, Log: w.Log, Commit: w.Commit}, w.primary())
		return
	}
	w.poll(w.ID, Ballot{Has: true, Last: w.Last, Log: w.Log, Commit: w.Commit})
}

// poll puts a ballot to the others, and starts the view if they are enough, with w's own among them.
func (w *step) poll(from int, b Ballot) {
	b.Log = copiedLog(b.Log)
	w.Ballots[from] = b
	polled := count(w.Ballots, func(b Ballot) bool { return b.Has })
	if w.Ballots[w.ID].Has && w.majority(polled) {
		w.start()
	}
}

// start makes w the normal primary of its view.
func (w *step) start() {
	// The first of those that are as good counts; a ballot that w does not have is all zero, and ahead of none.
	best := slices.MaxFunc(w.Ballots, func(a, b Ballot) int {
		return cmp.Or(cmp.Compare(a.Last, b.Last), cmp.Compare(len(a.Log), len(b.Log)))
	})
	commit := w.Commit
	for _, b := range w.Ballots {
		commit = max(commit, b.Commit)
	}
	w.become(best.Log, min(commit, len(best.Log)))
	w.tell(Msg{Kind: starts, Log: w.Log, Commit: w.Commit}, w.others()...)
	w.settle()
}

// become makes w normal in its view, with that log: what it has committed has to be there.
func (w *step) become(log [][]byte, commit int) {
	refuse(api.ErrState, !isBeginning(w.Log[:w.Commit], log))
	w.Log, w.Commit = log, max(w.Commit, commit)
	w.Last, w.Status = w.View, normal
	w.renew()
}

func isBeginning(entries, log [][]byte) bool {
	return len(entries) <= len(log) && slices.EqualFunc(entries, log[:len(entries)], bytes.Equal)
}

// settle commits what a majority has. A Match above the log's length, which no step makes, counts as that length.
func (w *step) settle() {
	for n := len(w.Log); n > w.Commit; n-- {
		if w.majority(count(w.Match, func(has int) bool { return has >= n })) {
			w.Commit = n
			return
		}
	}
}
