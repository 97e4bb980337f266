package client_test

import (
	"bytes"
	"maps"
	"math/rand"
	"slices"
	"strconv"
	"testing"

	"undercroft/api"
	"undercroft/client"
)

// told is one answer of Ask.
type told struct {
	what  int
	reply string
	err   api.Errno
}

func asked(l []client.Last, session, number int) told {
	what, reply, err := client.Ask(l, session, number)
	return told{what, string(reply), err}
}

// holdAsk tells whether Ask answers that.
func holdAsk(t *testing.T, name string, l []client.Last, session, number int, want told) {
	t.Helper()
	if got := asked(l, session, number); got != want {
		t.Errorf("%s: Ask(%d, %d) = %.200v, want %.200v", name, session, number, got, want)
	}
}

// holdDone tells whether Done answers that table.
func holdDone(t *testing.T, name string, l []client.Last, r client.Last, want []client.Last) {
	t.Helper()
	got, err := client.Done(l, r.Session, r.Number, r.Reply)
	if err != api.OK || !sameTable(got, want) {
		t.Errorf("%s: Done(%d, %d) = %.300v, %d, want %.300v", name, r.Session, r.Number, got, err, want)
	}
}

// refusesDone tells whether Done answers that error, and nothing beside it.
func refusesDone(t *testing.T, name string, l []client.Last, r client.Last, want api.Errno) {
	t.Helper()
	if got, err := client.Done(l, r.Session, r.Number, r.Reply); err != want || len(got) > 0 {
		t.Errorf("%s: Done(%d, %d, %d octets) = %.300v, %d, want %d", name, r.Session, r.Number, len(r.Reply), got, err, want)
	}
}

func sameTable(a, b []client.Last) bool {
	return slices.EqualFunc(a, b, func(x, y client.Last) bool {
		return x.Session == y.Session && x.Number == y.Number && bytes.Equal(x.Reply, y.Reply)
	})
}

// sessions is a table of n sessions from first on, by step.
func sessions(first, step, n int) []client.Last {
	var l []client.Last
	for i := range n {
		l = append(l, client.Last{first + i*step, 10 + i, text(i, i)})
	}
	return l
}

// rightTables holds tables that may be, those at the edges among them.
func rightTables() map[string][]client.Last {
	return map[string][]client.Last{
		"none":         nil,
		"one":          {{1, 1, nil}},
		"the highest":  {{topSession, topNumber, text(1, longestReply)}},
		"two":          {{1, topNumber, text(2, 3)}, {2, 1, text(3, 4)}},
		"far apart":    {{1, 5, nil}, {topSession - 1, 7, text(1, 9)}, {topSession, 6, text(2, 9)}},
		"alike":        {{3, 9, []byte("a")}, {4, 9, []byte("a")}, {5, 9, []byte("a")}},
		"63":           sessions(1, 1, mostSessions-1),
		"64":           sessions(2, 3, mostSessions),
		"64, the top":  sessions(topSession-mostSessions+1, 1, mostSessions),
		"long replies": {{1, 1, text(1, longestReply)}, {2, 1, text(2, longestReply-1)}, {3, 1, nil}},
	}
}

// wrongTables holds tables that may not be, each by one fault.
func wrongTables() map[string][]client.Last {
	all := map[string][]client.Last{
		"65":                    sessions(1, 1, mostSessions+1),
		"5000":                  sessions(1, 1, 5000),
		"a session twice":       {{1, 1, nil}, {1, 2, nil}},
		"the same twice":        {{4, 1, nil}, {4, 1, nil}},
		"sessions fall":         {{2, 1, nil}, {1, 1, nil}},
		"sessions fall at last": append(sessions(5, 1, 20), client.Last{Session: 23, Number: 1}),
		"twice at last":         append(sessions(5, 1, 20), client.Last{Session: 24, Number: 1}),
		"zeros":                 {{}},
	}
	for _, session := range wrongSessions() {
		all["session "+strconv.Itoa(session)] = []client.Last{{session, 1, nil}}
		if session > topSession {
			all["last session "+strconv.Itoa(session)] = append(sessions(1, 1, 9), client.Last{Session: session, Number: 1})
			continue
		}
		all["first session "+strconv.Itoa(session)] = append([]client.Last{{session, 1, nil}}, sessions(1, 1, 9)...)
	}
	for _, number := range wrongNumbers() {
		for _, at := range []int{0, 4, 8} {
			l := sessions(1, 1, 9)
			l[at].Number = number
			all["number "+strconv.Itoa(number)+" at "+strconv.Itoa(at)] = l
		}
	}
	for _, size := range []int{longestReply + 1, longestReply + 2, 65536} {
		for _, at := range []int{0, 4, 8} {
			l := sessions(1, 1, 9)
			l[at].Reply = make([]byte, size)
			all["a reply of "+strconv.Itoa(size)+" at "+strconv.Itoa(at)] = l
		}
	}
	return all
}

// P20.2: which tables may be.
func TestCheck(t *testing.T) {
	for name, l := range rightTables() {
		if err := client.Check(l); err != api.OK {
			t.Errorf("%s: Check = %d", name, err)
		}
	}
	for name, l := range wrongTables() {
		if err := client.Check(l); err != api.ErrState {
			t.Errorf("%s: Check = %d, want ErrState", name, err)
		}
	}
}

// P20.2: a table's fault goes ahead of all others.
func TestWrongTables(t *testing.T) {
	for name, l := range wrongTables() {
		for _, session := range []int{0, 1, 5, topSession + 1} {
			for _, number := range []int{0, 1, 11, 99, topNumber + 1} {
				holdAsk(t, name, l, session, number, told{err: api.ErrState})
				refusesDone(t, name, l, client.Last{session, number, nil}, api.ErrState)
				refusesDone(t, name, l, client.Last{session, number, text(1, longestReply+1)}, api.ErrState)
			}
		}
	}
}

// P20.2: a session or a number out of its range; with Done ahead of a reply that is too long, and of what is not new or has no room.
func TestWrongNames(t *testing.T) {
	for name, l := range rightTables() {
		for _, size := range []int{0, longestReply, longestReply + 1} {
			for _, session := range wrongSessions() {
				for _, number := range []int{0, 1, topNumber} {
					holdAsk(t, name, l, session, number, told{err: api.ErrRange})
					refusesDone(t, name, l, client.Last{session, number, text(1, size)}, api.ErrRange)
				}
			}
			for _, number := range wrongNumbers() {
				for _, session := range []int{1, 2, 3, 700, topSession} {
					holdAsk(t, name, l, session, number, told{err: api.ErrRange})
					refusesDone(t, name, l, client.Last{session, number, text(1, size)}, api.ErrRange)
				}
			}
		}
	}
}

// P20.2: a reply that is too long goes ahead of a request that is not new, and that ahead of a session too many.
func TestDoneOrder(t *testing.T) {
	full := sessions(2, 3, mostSessions)
	for _, size := range []int{longestReply + 1, longestReply + 2, 65536} {
		for _, r := range []client.Last{{1, 1, nil}, {2, 9, nil}, {2, 10, nil}, {2, 11, nil}, {3, 1, nil}, {topSession, topNumber, nil}} {
			r.Reply = text(1, size)
			refusesDone(t, "full", full, r, api.ErrLong)
			refusesDone(t, "none", nil, r, api.ErrLong)
		}
	}
	for i, last := range full {
		for _, number := range []int{1, last.Number - 1, last.Number} {
			refusesDone(t, "not new", full, client.Last{last.Session, number, text(2, longestReply)}, api.ErrOrder)
			refusesDone(t, "not new, the same reply", full, client.Last{last.Session, number, last.Reply}, api.ErrOrder)
		}
		for _, number := range []int{1, last.Number, topNumber} {
			refusesDone(t, "no room", full, client.Last{last.Session - 1, number, text(i, i)}, api.ErrFull)
		}
	}
	refusesDone(t, "no room at last", full, client.Last{topSession, 1, nil}, api.ErrFull)
	// The sessions that are there have room still.
	for at := range full {
		want := slices.Clone(full)
		want[at].Number, want[at].Reply = topNumber, text(at, longestReply)
		holdDone(t, "full", full, want[at], want)
	}
}

// P20.2: example 1, and what follows on it.
func TestAskByHand(t *testing.T) {
	l, err := client.Done(nil, 1, 5, []byte("r"))
	if err != api.OK {
		t.Fatal(err)
	}
	holdAsk(t, "example 1", l, 1, 5, told{1, "r", api.OK})
	holdAsk(t, "example 1", l, 1, 4, told{2, "", api.OK})
	holdAsk(t, "example 1", l, 1, 6, told{0, "", api.OK})
	holdAsk(t, "example 1", l, 2, 1, told{0, "", api.OK})
	for name, l := range rightTables() {
		for _, last := range l {
			holdAsk(t, name, l, last.Session, last.Number, told{1, string(last.Reply), api.OK})
			if last.Number > 1 {
				holdAsk(t, name, l, last.Session, last.Number-1, told{2, "", api.OK})
				holdAsk(t, name, l, last.Session, 1, told{2, "", api.OK})
			}
			if last.Number < topNumber {
				holdAsk(t, name, l, last.Session, last.Number+1, told{0, "", api.OK})
				holdAsk(t, name, l, last.Session, topNumber, told{0, "", api.OK})
			}
		}
		for _, session := range []int{700, 701, topSession / 2} {
			for _, number := range []int{1, 10, topNumber} {
				holdAsk(t, name, l, session, number, told{0, "", api.OK})
			}
		}
	}
}

// P20.2: a session's first request stands where its session does, a later one in its place.
func TestDoneByHand(t *testing.T) {
	a, b, c := client.Last{2, 5, []byte("a")}, client.Last{4, 1, nil}, client.Last{6, 9, []byte("c")}
	table := []client.Last{a, b, c}
	for _, last := range []client.Last{{1, 1, nil}, {1, topNumber, text(1, longestReply)}} {
		holdDone(t, "ahead", table, last, []client.Last{last, a, b, c})
		holdDone(t, "alone", nil, last, []client.Last{last})
	}
	for _, last := range []client.Last{{3, 7, []byte("x")}, {3, 1, []byte("a")}} {
		holdDone(t, "between", table, last, []client.Last{a, last, b, c})
	}
	holdDone(t, "between", table, client.Last{5, 1, nil}, []client.Last{a, b, {5, 1, nil}, c})
	holdDone(t, "behind", table, client.Last{7, 1, nil}, []client.Last{a, b, c, {7, 1, nil}})
	holdDone(t, "behind", table, client.Last{topSession, topNumber, nil}, []client.Last{a, b, c, {topSession, topNumber, nil}})
	holdDone(t, "next", table, client.Last{2, 6, []byte("next")}, []client.Last{{2, 6, []byte("next")}, b, c})
	holdDone(t, "numbers left out", table, client.Last{4, 77, []byte("x")}, []client.Last{a, {4, 77, []byte("x")}, c})
	holdDone(t, "an empty reply", table, client.Last{6, topNumber, nil}, []client.Last{a, b, {6, topNumber, nil}})
}

// plain is a table by a plain reading of the chapter: for each session its last number and reply.
type plain map[int]client.Last

func (p plain) ask(session, number int) told {
	switch last, there := p[session]; {
	case session < 1 || session > topSession || number < 1 || number > topNumber:
		return told{err: api.ErrRange}
	case !there || last.Number < number:
		return told{}
	case last.Number == number:
		return told{what: 1, reply: string(last.Reply)}
	}
	return told{what: 2}
}

func (p plain) done(r client.Last) api.Errno {
	_, there := p[r.Session]
	switch what := p.ask(r.Session, r.Number); {
	case what.err != api.OK:
		return what.err
	case len(r.Reply) > longestReply:
		return api.ErrLong
	case what.what != 0:
		return api.ErrOrder
	case !there && len(p) == mostSessions:
		return api.ErrFull
	}
	p[r.Session] = r
	return api.OK
}

func (p plain) table() []client.Last {
	var l []client.Last
	for _, session := range slices.Sorted(maps.Keys(p)) {
		l = append(l, p[session])
	}
	return l
}

// anyDone is a request that is done, mostly one that may be.
func anyDone(chance *rand.Rand, many int) client.Last {
	r := client.Last{1 + chance.Intn(many), 1 + chance.Intn(1+chance.Intn(60)), text(chance.Intn(99), chance.Intn(9))}
	switch chance.Intn(60) {
	case 0:
		r.Session = wrongSessions()[chance.Intn(11)]
	case 1:
		r.Number = wrongNumbers()[chance.Intn(9)]
	case 2:
		r.Reply = text(1, longestReply+chance.Intn(2))
	case 3:
		r.Session = topSession - chance.Intn(9)
	case 4:
		r.Number = topNumber - chance.Intn(2)
	}
	return r
}

// P20.2, P20.3: scripts of requests that are done, held to the plain reading; none is new twice, and what was told of the last one is told again.
func TestScripts(t *testing.T) {
	met := map[api.Errno]int{}
	for seed := range 200 {
		chance := rand.New(rand.NewSource(int64(seed)))
		want, many := plain{}, []int{1, 3, 20, 60, 100}[seed%5]
		done := map[[2]int]bool{}
		var l []client.Last
		for range 400 {
			r := anyDone(chance, many)
			if got, want := asked(l, r.Session, r.Number), want.ask(r.Session, r.Number); got != want {
				t.Fatalf("seed %d: Ask(%d, %d) = %.200v, want %.200v", seed, r.Session, r.Number, got, want)
			}
			next, err := client.Done(l, r.Session, r.Number, r.Reply)
			if wantErr := want.done(r); err != wantErr {
				t.Fatalf("seed %d: Done(%d, %d) = %d, want %d", seed, r.Session, r.Number, err, wantErr)
			}
			met[err]++
			if err != api.OK {
				continue
			}
			if l = next; client.Check(l) != api.OK || !sameTable(l, want.table()) {
				t.Fatalf("seed %d: Done(%d, %d) = %.300v, want %.300v", seed, r.Session, r.Number, l, want.table())
			}
			if done[[2]int{r.Session, r.Number}] {
				t.Fatalf("seed %d: %d, %d was new twice", seed, r.Session, r.Number)
			}
			done[[2]int{r.Session, r.Number}] = true
			holdAsk(t, "done", l, r.Session, r.Number, told{1, string(r.Reply), api.OK})
			refusesDone(t, "done", l, r, api.ErrOrder)
		}
		// What was done stays so, whatever was done behind it.
		for name := range done {
			if what, _, err := client.Ask(l, name[0], name[1]); what == 0 || err != api.OK {
				t.Fatalf("seed %d: %v is new again", seed, name)
			}
		}
	}
	for _, err := range []api.Errno{api.OK, api.ErrRange, api.ErrLong, api.ErrOrder, api.ErrFull} {
		if met[err] < 100 {
			t.Errorf("error %d was met only %d times", err, met[err])
		}
	}
}
