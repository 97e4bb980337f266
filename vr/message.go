package vr

import (
	"slices"

	"undercroft/api"
)

// What a message tells.
const (
	_ = iota
	prepares
	answers
	begins
	votes
	starts
	asks
	brings
)

func (w *step) hear(e Event) {
	m := e.Msg
	w.refuseWrong(m)
	if m.View < w.View {
		return
	}
	does := [...]func(Msg){
		prepares: w.takePrepare,
		answers:  w.takeAnswer,
		begins:   w.takeBegin,
		votes:    w.takeVote,
		starts:   w.takeStart,
		asks:     w.takeAsk,
		brings:   w.takeBring,
	}
	does[m.Kind](m)
}

// refuseWrong refuses what no message may have, of whatever kind it is.
func (w *step) refuseWrong(m Msg) {
	refuse(api.ErrArg,
		!within(prepares, brings, m.Kind),
		!within(0, w.N-1, m.From, m.To),
		m.To != w.ID || m.From == w.ID,
		!within(0, api.MaxView, m.View))
	refuse(api.ErrCount, len(m.Log) > api.MaxLog)
	refuse(api.ErrLong, slices.ContainsFunc(m.Log, tooLong))
	refuse(api.ErrRange, !within(0, api.MaxLog, m.Prev, m.Commit, m.Match))
}

func (w *step) takePrepare(m Msg) {
	// No replica hears itself: where w is that primary, From is not.
	refuse(api.ErrState, m.From != w.primaryOf(m.View))
	if !w.normalIn(m.View) {
		if w.View < m.View {
			w.enter(m.View)
		}
		w.Elapsed = 0
		w.tell(Msg{Kind: asks, Prev: w.Commit}, m.From)
		return
	}
	w.Elapsed = 0
	if m.Prev > len(w.Log) {
		w.tell(Msg{Kind: asks, Prev: len(w.Log)}, m.From)
		return
	}
	w.extend(m)
	w.answer(m.From)
}

// extend appends the entries of m that w has not yet.
func (w *step) extend(m Msg) {
	refuse(api.ErrFull, m.Prev+len(m.Log) > api.MaxLog)
	had := min(len(w.Log)-m.Prev, len(m.Log))
	w.Log = append(w.Log, copiedLog(m.Log[had:])...)
	w.Commit = max(w.Commit, min(m.Commit, len(w.Log)))
}

func (w *step) answer(to int) {
	w.tell(Msg{Kind: answers, Match: len(w.Log)}, to)
}

func (w *step) takeAnswer(m Msg) {
	if !w.leads() || w.View != m.View {
		return
	}
	refuse(api.ErrRange, m.Match > len(w.Log))
	w.Match[m.From] = max(w.Match[m.From], m.Match)
	w.settle()
}

func (w *step) takeBegin(m Msg) {
	switch {
	case w.View < m.View:
		w.changeTo(m.View, m.From)
	case w.Status == changing:
		w.Marks[m.From] = true
		w.look()
	}
}

func (w *step) takeVote(m Msg) {
	refuse(api.ErrState, w.ID != w.primaryOf(m.View))
	refuse(api.ErrRange, m.Commit > len(m.Log), m.Last > m.View)
	if w.View < m.View {
		w.changeTo(m.View)
	}
	if w.Status != changing {
		return
	}
	// A ballot with a view below 0 may not be kept.
	refuse(api.ErrRange, !within(0, m.View-1, m.Last))
	w.poll(m.From, Ballot{Has: true, Last: m.Last, Log: m.Log, Commit: m.Commit})
}

func (w *step) takeStart(m Msg) {
	refuse(api.ErrState, m.From != w.primaryOf(m.View))
	refuse(api.ErrRange, m.Commit > len(m.Log))
	if !w.normalIn(m.View) {
		w.follow(m, copiedLog(m.Log))
	}
	w.answer(m.From)
}

// follow makes w normal in m's view, which is another one's, with that log.
func (w *step) follow(m Msg, log [][]byte) {
	w.View = m.View
	w.become(log, m.Commit)
}

func (w *step) takeAsk(m Msg) {
	if w.normalIn(m.View) && m.Prev <= len(w.Log) {
		w.tell(Msg{Kind: brings, Prev: m.Prev, Log: w.Log[m.Prev:], Commit: w.Commit}, m.From)
	}
}

func (w *step) takeBring(m Msg) {
	refuse(api.ErrRange, m.Commit > m.Prev+len(m.Log))
	if w.normalIn(m.View) {
		w.bringMore(m)
		return
	}
	// Behind what is committed the log may be another one than that of the view.
	if m.Prev > w.Commit {
		return
	}
	refuse(api.ErrState, w.ID == w.primaryOf(m.View))
	log := append(w.Log[:m.Prev:m.Prev], copiedLog(m.Log)...)
	refuse(api.ErrFull, len(log) > api.MaxLog)
	w.follow(m, log)
	w.answer(w.primary())
}

// bringMore is takeBring for one that is normal in that view.
func (w *step) bringMore(m Msg) {
	refuse(api.ErrState, w.leads())
	if m.Prev <= len(w.Log) {
		w.extend(m)
		w.answer(m.From)
	}
}
