package vr_test

import (
	"math"
	"slices"
	"strings"
	"testing"

	"undercroft/api"
	"undercroft/vr"
)

// stepCase is an event that happens to a replica, and what the chapter says of it.
type stepCase struct {
	s    vr.State
	e    vr.Event
	want vr.State
	told []vr.Msg
}

// told is what is told.
func told(l ...vr.Msg) []vr.Msg {
	return l
}

// reset is s behind what sets Elapsed to 0.
func reset(s vr.State) vr.State {
	s.Elapsed = 0
	return s
}

// drawn is s behind what sets Elapsed to 0 and takes a timeout where there are no draws.
func drawn(s vr.State) vr.State {
	s.Elapsed, s.Timeout = 0, 10+s.ID
	return s
}

func playCases(t *testing.T, cases map[string]stepCase) {
	t.Helper()
	for name, c := range cases {
		got, told, err := vr.Step(c.s, c.e)
		if err != api.OK || !same(got, c.want) || !sameTold(told, c.told) {
			t.Errorf("%s: Step = %s, %s, %s; want %s, %s", name, brief(got), brief(told), errorName(err), brief(c.want), brief(c.told))
		}
		if again, _ := hold(t, c.s, c.e); vr.Check(again) != api.OK {
			t.Errorf("%s: %s may not be", name, brief(again))
		}
	}
}

// refusedCase is an event that is refused.
type refusedCase struct {
	s    vr.State
	e    vr.Event
	want api.Errno
}

func playRefused(t *testing.T, cases map[string]refusedCase) {
	t.Helper()
	for name, c := range cases {
		if got, told, err := vr.Step(c.s, c.e); err != c.want || !none(got, told) {
			t.Errorf("%s: Step = %s, %s, %s, want %s", name, brief(got), brief(told), errorName(err), errorName(c.want))
		}
	}
}

// P19.2: a tick.
func TestTick(t *testing.T) {
	ten := strings.Fields("a b c d e f g h i j")
	leader := with(normal(1, 4, 5, 3, ten...), matching(0, 10, 2, 10))
	playCases(t, map[string]stepCase{
		"a primary, the first":  {with(leader, waited(0, 15)), tick(), with(leader, waited(1, 15)), nil},
		"a primary, the second": {with(leader, waited(1, 15)), tick(), with(leader, waited(2, 15)), nil},
		"a primary, the third": {with(leader, waited(2, 15)), tick(), with(leader, waited(0, 15)), told(
			vr.Msg{Kind: 1, From: 1, To: 0, View: 5, Prev: 0, Log: logOf(ten[:8]...), Commit: 3},
			vr.Msg{Kind: 1, From: 1, To: 2, View: 5, Prev: 2, Log: logOf(ten[2:]...), Commit: 3},
			vr.Msg{Kind: 1, From: 1, To: 3, View: 5, Prev: 10, Commit: 3})},
		"a primary, one short of eight": {with(leader, waited(2, 15), matching(1, 10, 3, 9)), tick(), with(leader, waited(0, 15), matching(1, 10, 3, 9)), told(
			vr.Msg{Kind: 1, From: 1, To: 0, View: 5, Prev: 1, Log: logOf(ten[1:9]...), Commit: 3},
			vr.Msg{Kind: 1, From: 1, To: 2, View: 5, Prev: 3, Log: logOf(ten[3:]...), Commit: 3},
			vr.Msg{Kind: 1, From: 1, To: 3, View: 5, Prev: 9, Log: logOf("j"), Commit: 3})},
		"a primary, told too much": {with(normal(1, 3, 4, 1, "a"), waited(2, 15), matching(3, 1, 512)), tick(), with(normal(1, 3, 4, 1, "a"), waited(0, 15), matching(3, 1, 512)), told(
			vr.Msg{Kind: 1, From: 1, To: 0, View: 4, Prev: 3, Commit: 1},
			vr.Msg{Kind: 1, From: 1, To: 2, View: 4, Prev: 512, Commit: 1})},
		"a primary, however late":  {with(normal(0, 2, 0, 0), waited(mostTicks, 10)), tick(), with(normal(0, 2, 0, 0), waited(0, 10)), told(vr.Msg{Kind: 1, From: 0, To: 1})},
		"a primary, its time over": {with(normal(0, 2, 0, 0), waited(1, 0)), tick(), with(normal(0, 2, 0, 0), waited(2, 0)), nil},
		"a primary, the last view": {with(normal(1, 3, highest, 0), waited(2, 15)), tick(), with(normal(1, 3, highest, 0), waited(0, 15)), told(
			vr.Msg{Kind: 1, From: 1, To: 0, View: highest}, vr.Msg{Kind: 1, From: 1, To: 2, View: highest})},
		"alone, the third":       {with(normal(0, 1, 0, 1, "a"), waited(2, 15)), tick(), with(normal(0, 1, 0, 1, "a"), waited(0, 15)), nil},
		"another one":            {with(normal(2, 3, 4, 1, "a"), waited(2, 15)), tick(), with(normal(2, 3, 4, 1, "a"), waited(3, 15)), nil},
		"another one, not yet":   {with(normal(2, 3, 4, 1, "a"), waited(13, 15)), tick(), with(normal(2, 3, 4, 1, "a"), waited(14, 15)), nil},
		"changing, not yet":      {with(changing(2, 3, 4, 3, 1, "a"), waited(13, 15)), tick(), with(changing(2, 3, 4, 3, 1, "a"), waited(14, 15)), nil},
		"the last view, not yet": {with(normal(2, 3, highest, 0), waited(13, 15)), tick(), with(normal(2, 3, highest, 0), waited(14, 15)), nil},
		"its time is over": {with(normal(2, 3, 4, 1, "a", "b"), waited(14, 15)), tick(), drawn(changing(2, 3, 5, 4, 1, "a", "b")), told(
			vr.Msg{Kind: 3, From: 2, To: 0, View: 5}, vr.Msg{Kind: 3, From: 2, To: 1, View: 5})},
		"its time is long over": {with(normal(2, 3, 4, 1, "a"), waited(mostTicks, mostTicks)), tick(), drawn(changing(2, 3, 5, 4, 1, "a")), told(
			vr.Msg{Kind: 3, From: 2, To: 0, View: 5}, vr.Msg{Kind: 3, From: 2, To: 1, View: 5})},
		"it is the next primary": {with(normal(2, 3, 4, 1, "a"), waited(14, 15), func(s *vr.State) { s.View, s.Last = 1, 1 }), tick(), drawn(changing(2, 3, 2, 1, 1, "a")), told(
			vr.Msg{Kind: 3, From: 2, To: 0, View: 2}, vr.Msg{Kind: 3, From: 2, To: 1, View: 2})},
		"changing, its time is over": {with(changing(1, 3, 4, 3, 0), marked(2), sent, polled(1, 3, 0), polled(0, 3, 0), waited(14, 15), drawing(-2, 3)), tick(),
			with(changing(1, 3, 5, 3, 0), waited(0, 18), drawing(3)), told(vr.Msg{Kind: 3, From: 1, To: 0, View: 5}, vr.Msg{Kind: 3, From: 1, To: 2, View: 5})},
		"changing alone, its time is over": {with(changing(0, 1, 4, 3, 0, "a", "b"), waited(14, 15)), tick(), drawn(normal(0, 1, 5, 2, "a", "b")), nil},
		"the last view is the next":        {with(changing(2, 3, highest-1, 3, 0), waited(14, 15)), tick(), drawn(changing(2, 3, highest, 3, 0)), told(vr.Msg{Kind: 3, From: 2, To: 0, View: highest}, vr.Msg{Kind: 3, From: 2, To: 1, View: highest})},
	})
	playRefused(t, map[string]refusedCase{
		"the last view":           {with(normal(2, 3, highest, 0), waited(14, 15)), tick(), api.ErrRange},
		"the last view, changing": {with(changing(2, 3, highest, 3, 0), waited(14, 15)), tick(), api.ErrRange},
	})
}

// P19.2: a request.
func TestRequest(t *testing.T) {
	entry := strings.Repeat("e", longest)
	full := normal(0, 3, 3, 0)
	full.Log, full.Match[0] = long(mostEntries-1), mostEntries-1
	filled := with(full, func(s *vr.State) { s.Log = append(s.Log, []byte("x")); s.Match[0]++ })
	playCases(t, map[string]stepCase{
		"example 1: alone": {drawn(normal(0, 1, 0, 0)), ask("x"), drawn(normal(0, 1, 0, 1, "x")), nil},
		"alone, once more": {normal(0, 1, 7, 0, "a"), ask("x"), normal(0, 1, 7, 2, "a", "x"), nil},
		"of three":         {with(normal(1, 3, 4, 1, "a"), matching(1, 1, 0)), ask("x"), with(normal(1, 3, 4, 1, "a", "x"), matching(1, 2, 0)), nil},
		"nothing is asked": {normal(1, 3, 4, 0, "a"), ask(""), normal(1, 3, 4, 0, "a", ""), nil},
		"the same":         {normal(1, 3, 4, 0, "a"), ask("a"), normal(1, 3, 4, 0, "a", "a"), nil},
		"256 octets":       {normal(1, 3, 4, 0), ask(entry), normal(1, 3, 4, 0, entry), nil},
		"the 512th":        {full, ask("x"), filled, nil},
		"it settles":       {with(normal(1, 3, 4, 0, "a"), matching(0, 1, 1)), ask("x"), with(normal(1, 3, 4, 1, "a", "x"), matching(0, 2, 1)), nil},
		"told too much":    {with(normal(1, 3, 4, 0, "a"), matching(512, 0, 7)), ask("x"), with(normal(1, 3, 4, 2, "a", "x"), matching(512, 2, 7)), nil},
	})
	long := ask(entry + "e")
	playRefused(t, map[string]refusedCase{
		"no primary":                {normal(0, 3, 4, 0), ask("x"), api.ErrState},
		"no primary, long":          {normal(0, 3, 4, 0), long, api.ErrState},
		"changing":                  {changing(0, 3, 4, 3, 0), ask("x"), api.ErrState},
		"to be primary":             {changing(1, 3, 4, 3, 0), ask("x"), api.ErrState},
		"to be primary alone":       {changing(0, 1, 4, 3, 0), long, api.ErrState},
		"long":                      {normal(1, 3, 4, 0), long, api.ErrLong},
		"very long":                 {normal(1, 3, 4, 0), ask(strings.Repeat("x", 1_000_000)), api.ErrLong},
		"full":                      {filled, ask("x"), api.ErrFull},
		"full, nothing is asked":    {filled, ask(""), api.ErrFull},
		"long ahead of full":        {filled, long, api.ErrLong},
		"no event":                  {normal(1, 3, 4, 0), vr.Event{Data: []byte("x")}, api.ErrKind},
		"an event of Kind 4":        {normal(1, 3, 4, 0), vr.Event{Kind: 4}, api.ErrKind},
		"an event of Kind -1":       {normal(0, 3, 4, 0), vr.Event{Kind: -1, Data: long.Data}, api.ErrKind},
		"an event of a high Kind":   {normal(1, 3, 4, 0), vr.Event{Kind: math.MaxInt}, api.ErrKind},
		"an event of a low Kind":    {normal(1, 3, 4, 0), vr.Event{Kind: math.MinInt}, api.ErrKind},
		"a Kind that is 3 modulo 4": {normal(1, 3, 4, 0), vr.Event{Kind: 7}, api.ErrKind},
	})
}

// P19.2: it settles by the greatest number that a majority has, in a group of each size.
func TestSettle(t *testing.T) {
	six := strings.Fields("a b c d e f")
	for _, c := range []struct {
		match []int
		ahead int
		want  int
	}{
		{[]int{6, 0}, 0, 0},
		{[]int{6, 2}, 0, 2},
		{[]int{6, 0, 0}, 0, 0},
		{[]int{6, 3, 0}, 0, 3},
		{[]int{6, 0, 3}, 0, 3},
		{[]int{6, 3, 5}, 0, 5},
		{[]int{6, 3, 5}, 6, 6},
		{[]int{6, 5, 0, 0}, 0, 0},
		{[]int{6, 5, 1, 0}, 0, 1},
		{[]int{6, 5, 4, 0}, 2, 4},
		{[]int{6, 6, 0, 0, 0}, 1, 1},
		{[]int{6, 0, 4, 0, 5}, 1, 4},
		{[]int{6, 1, 2, 3, 4, 5}, 0, 3},
		{[]int{6, 6, 6, 2, 1, 1, 0, 0, 0}, 0, 1},
		{[]int{6, 6, 6, 6, 6, 0, 0, 0, 0}, 0, 6},
		{[]int{6, 6, 6, 6, 0, 0, 0, 0}, 0, 0},
	} {
		n := len(c.match)
		s := with(normal(0, n, n, c.ahead, six...), matching(c.match...))
		// An answer of what is known already changes nothing, but settles.
		m := vr.Msg{Kind: 2, From: n - 1, To: 0, View: n, Match: c.match[n-1]}
		got, told, err := vr.Step(s, hear(m))
		if want := with(s, func(s *vr.State) { s.Commit = c.want }); err != api.OK || !same(got, want) || len(told) > 0 {
			t.Errorf("%v, %d: Step = %s, %s, %s", c.match, c.ahead, brief(got), brief(told), errorName(err))
		}
	}
}

// P19.2: what no message may be, in the order in which it is refused.
func TestWrongMessages(t *testing.T) {
	entry := string(make([]byte, longest+1))
	many := long(mostEntries + 1)
	for name, s := range map[string]vr.State{
		"a primary":     normal(1, 3, 4, 0, "a"),
		"another one":   normal(1, 3, 5, 0, "a"),
		"changing":      changing(1, 3, 5, 4, 0, "a"),
		"to be primary": changing(1, 3, 4, 3, 0, "a"),
	} {
		right := vr.Msg{Kind: 3, From: 2, To: 1, View: s.View}
		for _, change := range []func(m *vr.Msg, n int){
			func(m *vr.Msg, n int) { m.Kind = n },
			func(m *vr.Msg, n int) { m.From = n },
			func(m *vr.Msg, n int) { m.To = n },
		} {
			for _, n := range []int{math.MinInt, -1, 8, 9, 1 << 32, 1<<32 + 1, math.MaxInt} {
				m := right
				change(&m, n)
				m.Log, m.Prev = many, -1
				playRefused(t, map[string]refusedCase{name: {s, hear(m), api.ErrArg}})
			}
		}
		cases := map[string]refusedCase{}
		for what, c := range map[string]struct {
			m    vr.Msg
			want api.Errno
		}{
			"Kind 0":               {vr.Msg{From: 2, To: 1, View: s.View}, api.ErrArg},
			"From is not there":    {vr.Msg{Kind: 3, From: 3, To: 1, View: s.View}, api.ErrArg},
			"To another one":       {vr.Msg{Kind: 3, From: 2, To: 0, View: s.View}, api.ErrArg},
			"To From":              {vr.Msg{Kind: 3, From: 2, To: 2, View: s.View}, api.ErrArg},
			"From itself":          {vr.Msg{Kind: 3, From: 1, To: 1, View: s.View}, api.ErrArg},
			"View -1":              {vr.Msg{Kind: 3, From: 2, To: 1, View: -1}, api.ErrArg},
			"View too high":        {vr.Msg{Kind: 3, From: 2, To: 1, View: highest + 1}, api.ErrArg},
			"View the last number": {vr.Msg{Kind: 3, From: 2, To: 1, View: math.MaxInt}, api.ErrArg},
			"Kind and entries":     {vr.Msg{Kind: 8, From: 2, To: 1, View: s.View, Log: many}, api.ErrArg},
			"View and entries":     {vr.Msg{Kind: 3, From: 2, To: 1, View: -1, Log: logOf(entry)}, api.ErrArg},
			"513 entries":          {vr.Msg{Kind: 3, From: 2, To: 1, View: s.View, Log: many}, api.ErrCount},
			"a million entries":    {vr.Msg{Kind: 3, From: 2, To: 1, Log: make([][]byte, 1_000_000)}, api.ErrCount},
			"many, and a long one": {vr.Msg{Kind: 3, From: 2, To: 1, View: s.View, Prev: -1, Log: append(logOf(entry), many...)}, api.ErrCount},
			"a long entry":         {vr.Msg{Kind: 3, From: 2, To: 1, View: s.View, Log: logOf("a", entry)}, api.ErrLong},
			"a long one, and Prev": {vr.Msg{Kind: 3, From: 2, To: 1, View: s.View, Log: logOf(entry), Prev: -1}, api.ErrLong},
			"a long one, an elder": {vr.Msg{Kind: 3, From: 2, To: 1, View: 0, Log: logOf(entry)}, api.ErrLong},
			"Prev -1":              {vr.Msg{Kind: 3, From: 2, To: 1, View: s.View, Prev: -1}, api.ErrRange},
			"Prev 513":             {vr.Msg{Kind: 3, From: 2, To: 1, View: s.View, Prev: 513}, api.ErrRange},
			"Commit -1":            {vr.Msg{Kind: 3, From: 2, To: 1, View: s.View, Commit: -1}, api.ErrRange},
			"Commit 513":           {vr.Msg{Kind: 3, From: 2, To: 1, View: s.View, Commit: 513}, api.ErrRange},
			"Match -1":             {vr.Msg{Kind: 3, From: 2, To: 1, View: s.View, Match: -1}, api.ErrRange},
			"Match 513":            {vr.Msg{Kind: 3, From: 2, To: 1, View: s.View, Match: 513}, api.ErrRange},
			"Prev, an elder view":  {vr.Msg{Kind: 1, From: 2, To: 1, View: 0, Prev: math.MinInt}, api.ErrRange},
			"Match ahead of state": {vr.Msg{Kind: 1, From: 0, To: 1, View: 5, Match: math.MaxInt}, api.ErrRange},
		} {
			cases[name+", "+what] = refusedCase{s, hear(c.m), c.want}
		}
		playRefused(t, cases)
	}
	playRefused(t, map[string]refusedCase{
		"alone, from itself":     {normal(0, 1, 4, 0), hear(vr.Msg{Kind: 1, View: 5}), api.ErrArg},
		"alone, from another":    {normal(0, 1, 4, 0), hear(vr.Msg{Kind: 1, From: 1, View: 5}), api.ErrArg},
		"alone, changing":        {changing(0, 1, 4, 3, 0), hear(vr.Msg{Kind: 4, View: 4}), api.ErrArg},
		"nine, from one of more": {normal(0, 9, 4, 0), hear(vr.Msg{Kind: 3, From: 9, View: 5}), api.ErrArg},
	})
}

// P19.2: a message of an elder view is nothing, whatever else it tells.
func TestElderViews(t *testing.T) {
	cases := map[string]stepCase{}
	for name, s := range map[string]vr.State{
		"a primary":     with(normal(1, 3, 4, 0, "a"), matching(0, 1, 0)),
		"another one":   normal(1, 3, 5, 0, "a"),
		"changing":      with(changing(1, 3, 5, 4, 0, "a"), marked(2)),
		"to be primary": with(changing(1, 3, 4, 3, 0, "a"), polled(0, 2, 0)),
	} {
		for kind := 1; kind <= 7; kind++ {
			for from := 0; from <= 2; from += 2 {
				m := vr.Msg{Kind: kind, From: from, To: 1, View: s.View - 1, Last: math.MaxInt, Prev: 1, Log: logOf("x"), Commit: 512, Match: 512}
				cases[name+brief(m)] = stepCase{s, hear(m), s, nil}
				m.View = 0
				cases[name+brief(m)] = stepCase{s, hear(m), s, nil}
			}
		}
	}
	playCases(t, cases)
}

// P19.2: messages of Kind 1 and 2.
func TestPrepare(t *testing.T) {
	s := normal(2, 3, 4, 1, "a", "b", "c")
	m := func(prev, commit int, entries ...string) vr.Event {
		return hear(vr.Msg{Kind: 1, From: 1, To: 2, View: 4, Prev: prev, Log: logOf(entries...), Commit: commit})
	}
	has := func(n int) []vr.Msg { return told(vr.Msg{Kind: 2, From: 2, To: 1, View: 4, Match: n}) }
	now := func(commit int, entries ...string) vr.State { return reset(normal(2, 3, 4, commit, entries...)) }
	full := normal(2, 3, 4, 0)
	full.Log = long(mostEntries)
	asks := func(prev int) []vr.Msg { return told(vr.Msg{Kind: 6, From: 2, To: 1, View: 4, Prev: prev}) }
	playCases(t, map[string]stepCase{
		"nothing new":               {s, m(3, 1), now(1, "a", "b", "c"), has(3)},
		"one more":                  {s, m(3, 1, "d"), now(1, "a", "b", "c", "d"), has(4)},
		"some of it is there":       {s, m(1, 2, "b", "c", "d", "e"), now(2, "a", "b", "c", "d", "e"), has(5)},
		"what is there stays":       {s, m(0, 2, "x", "y", "z", "d"), now(2, "a", "b", "c", "d"), has(4)},
		"all of it is there":        {s, m(0, 1, "a", "b"), now(1, "a", "b", "c"), has(3)},
		"committed up to its end":   {s, m(3, 9, "d"), now(4, "a", "b", "c", "d"), has(4)},
		"committed, nothing new":    {s, m(0, 2), now(2, "a", "b", "c"), has(3)},
		"committed, all it has":     {s, m(2, 512), now(3, "a", "b", "c"), has(3)},
		"not less than committed":   {s, m(3, 0), now(1, "a", "b", "c"), has(3)},
		"a gap":                     {s, m(4, 4, "e"), now(1, "a", "b", "c"), asks(3)},
		"a gap, nothing there":      {normal(2, 3, 4, 0), m(1, 1), now(0), asks(0)},
		"a great gap":               {s, m(512, 512, "e"), now(1, "a", "b", "c"), asks(3)},
		"full, and nothing new":     {full, m(511, 0, "x"), reset(full), has(512)},
		"full, behind it":           {full, m(512, 0), reset(full), has(512)},
		"changing, the same view":   {with(changing(2, 3, 4, 3, 1, "a", "b"), marked(0), sent), m(2, 2, "c"), reset(with(changing(2, 3, 4, 3, 1, "a", "b"), marked(0), sent)), asks(1)},
		"an elder view":             {normal(2, 3, 3, 1, "a", "b"), m(2, 2, "c"), drawn(changing(2, 3, 4, 3, 1, "a", "b")), asks(1)},
		"an elder one, draws":       {with(normal(2, 3, 3, 0), drawing(6, 5)), m(0, 0), with(changing(2, 3, 4, 3, 0), waited(0, 16), drawing(5)), asks(0)},
		"an elder one, it led":      {with(normal(2, 3, 2, 0, "a"), matching(1, 0, 1)), m(0, 0), drawn(changing(2, 3, 4, 2, 0, "a")), asks(0)},
		"an elder one, changing":    {with(changing(2, 3, 3, 1, 1, "a"), marked(0, 1), sent), m(0, 0), drawn(changing(2, 3, 4, 1, 1, "a")), asks(1)},
		"an elder one, two of two":  {changing(0, 2, 4, 3, 0), hear(vr.Msg{Kind: 1, From: 1, View: 5}), drawn(changing(0, 2, 5, 3, 0)), told(vr.Msg{Kind: 6, From: 0, To: 1, View: 5})},
		"an elder one, to be first": {with(changing(2, 3, 2, 1, 0), polled(2, 1, 0), polled(0, 1, 0)), m(0, 0), drawn(changing(2, 3, 4, 1, 0)), asks(0)},
	})
	playRefused(t, map[string]refusedCase{
		"not from the primary":         {s, hear(vr.Msg{Kind: 1, From: 0, To: 2, View: 4}), api.ErrState},
		"from the primary it knows":    {s, hear(vr.Msg{Kind: 1, From: 1, To: 2, View: 6}), api.ErrState},
		"to the primary of that view":  {s, hear(vr.Msg{Kind: 1, From: 1, To: 2, View: 5}), api.ErrState},
		"to a normal primary":          {normal(1, 3, 4, 0), hear(vr.Msg{Kind: 1, From: 2, To: 1, View: 4}), api.ErrState},
		"more than 512 entries":        {s, hear(vr.Msg{Kind: 1, From: 1, To: 2, View: 4, Prev: 3, Log: long(510)}), api.ErrFull},
		"more than 512, most is there": {full, m(512, 0, "x"), api.ErrFull},
		"more than 512, one is there":  {full, m(511, 0, "x", "y"), api.ErrFull},
	})
}

// P19.2: what fits a log of 512 entries, to the last one.
func TestFull(t *testing.T) {
	for _, kind := range []int{1, 7} {
		s := normal(2, 3, 4, 1, "a", "b", "c")
		e := hear(vr.Msg{Kind: kind, From: 1, To: 2, View: 4, Prev: 3, Log: long(509), Commit: 512})
		got, told, err := vr.Step(s, e)
		if err != api.OK || len(got.Log) != 512 || got.Commit != 512 || len(told) != 1 || told[0].Match != 512 {
			t.Errorf("Kind %d: Step = %s, %s, %s", kind, brief(got), brief(told), errorName(err))
		}
	}
}

func TestAnswer(t *testing.T) {
	s := with(normal(1, 3, 4, 0, "a", "b", "c"), matching(0, 3, 0))
	m := func(match int) vr.Event { return hear(vr.Msg{Kind: 2, From: 2, To: 1, View: 4, Match: match}) }
	now := func(commit int, match ...int) vr.State {
		return with(normal(1, 3, 4, commit, "a", "b", "c"), matching(match...))
	}
	later := hear(vr.Msg{Kind: 2, From: 2, To: 1, View: 7, Match: 512})
	playCases(t, map[string]stepCase{
		"some":                {s, m(2), now(2, 0, 3, 2), nil},
		"all":                 {s, m(3), now(3, 0, 3, 3), nil},
		"none":                {s, m(0), s, nil},
		"less than before":    {now(2, 0, 3, 2), m(1), now(2, 0, 3, 2), nil},
		"of five, one":        {with(normal(1, 5, 6, 0, "a"), matching(0, 1, 0, 0, 0)), hear(vr.Msg{Kind: 2, From: 3, To: 1, View: 6, Match: 1}), with(normal(1, 5, 6, 0, "a"), matching(0, 1, 0, 1, 0)), nil},
		"of five, another":    {with(normal(1, 5, 6, 0, "a"), matching(0, 1, 0, 1, 0)), hear(vr.Msg{Kind: 2, From: 0, To: 1, View: 6, Match: 1}), with(normal(1, 5, 6, 1, "a"), matching(1, 1, 0, 1, 0)), nil},
		"no primary":          {normal(1, 3, 5, 0, "a"), hear(vr.Msg{Kind: 2, From: 2, To: 1, View: 5, Match: 9}), normal(1, 3, 5, 0, "a"), nil},
		"changing":            {changing(1, 3, 5, 4, 0), hear(vr.Msg{Kind: 2, From: 2, To: 1, View: 5, Match: 9}), changing(1, 3, 5, 4, 0), nil},
		"to be primary":       {changing(1, 3, 4, 3, 0), m(9), changing(1, 3, 4, 3, 0), nil},
		"of a later view":     {s, hear(vr.Msg{Kind: 2, From: 2, To: 1, View: 5, Match: 9}), s, nil},
		"of its next view":    {s, later, s, nil},
		"another, later view": {normal(1, 3, 5, 0, "a"), later, normal(1, 3, 5, 0, "a"), nil},
	})
	playRefused(t, map[string]refusedCase{
		"more than there is": {s, m(4), api.ErrRange},
		"much more":          {s, m(512), api.ErrRange},
	})
}

// P19.2: messages of Kind 3, and when it looks.
func TestBegin(t *testing.T) {
	m := func(from, to, view int) vr.Event { return hear(vr.Msg{Kind: 3, From: from, To: to, View: view}) }
	begun := func(from, n, view int) []vr.Msg {
		var l []vr.Msg
		for to := range n {
			if to != from {
				l = append(l, vr.Msg{Kind: 3, From: from, To: to, View: view})
			}
		}
		return l
	}
	ballot := vr.Msg{Kind: 4, From: 2, To: 1, View: 4, Last: 3, Log: logOf("a", "b"), Commit: 1}
	three := changing(2, 3, 4, 3, 1, "a", "b")
	five := changing(2, 5, 9, 3, 1, "a", "b")
	lead := changing(1, 3, 4, 2, 1, "a", "b")
	playCases(t, map[string]stepCase{
		"a later view, of three":       {normal(2, 3, 3, 1, "a", "b"), m(1, 2, 4), drawn(with(three, marked(1), sent)), append(begun(2, 3, 4), ballot)},
		"a later view, it led":         {with(normal(2, 3, 2, 1, "a"), matching(1, 1, 1)), m(0, 2, 4), drawn(with(changing(2, 3, 4, 2, 1, "a"), marked(0), sent)), append(begun(2, 3, 4), vr.Msg{Kind: 4, From: 2, To: 1, View: 4, Last: 2, Log: logOf("a"), Commit: 1})},
		"a later view, of five":        {normal(2, 5, 3, 1, "a", "b"), m(1, 2, 9), drawn(with(five, marked(1))), begun(2, 5, 9)},
		"a later view, of four":        {normal(2, 4, 2, 0), m(1, 2, 5), drawn(with(changing(2, 4, 5, 2, 0), marked(1))), begun(2, 4, 5)},
		"a later view, changing, sent": {with(changing(2, 5, 8, 3, 1, "a", "b"), marked(0, 3), sent), m(4, 2, 9), drawn(with(five, marked(4))), begun(2, 5, 9)},
		"the last view":                {normal(2, 5, 3, 0), m(1, 2, highest), drawn(with(changing(2, 5, highest, 3, 0), marked(1))), begun(2, 5, highest)},
		"the next draw":                {with(normal(2, 5, 3, 0), drawing(4, 4)), m(1, 2, 9), with(changing(2, 5, 9, 3, 0), marked(1), drawing(4), waited(0, 14)), begun(2, 5, 9)},
		"one more of three":            {three, m(0, 2, 4), with(three, marked(0), sent), told(ballot)},
		"one more of five":             {five, m(0, 2, 9), with(five, marked(0)), nil},
		"the same of five":             {with(five, marked(0)), m(0, 2, 9), with(five, marked(0)), nil},
		"two more of five":             {with(five, marked(0)), m(3, 2, 9), with(five, marked(0, 3), sent), told(vr.Msg{Kind: 4, From: 2, To: 4, View: 9, Last: 3, Log: logOf("a", "b"), Commit: 1})},
		"two more of four":             {with(changing(2, 4, 5, 2, 0), marked(3)), m(1, 2, 5), with(changing(2, 4, 5, 2, 0), marked(1, 3), sent), told(vr.Msg{Kind: 4, From: 2, To: 1, View: 5, Last: 2})},
		"sent is sent":                 {with(five, marked(0, 3), sent), m(4, 2, 9), with(five, marked(0, 3, 4), sent), nil},
		"normal":                       {normal(2, 3, 4, 1, "a"), m(1, 2, 4), normal(2, 3, 4, 1, "a"), nil},
		"a normal primary":             {normal(1, 3, 4, 1, "a"), m(0, 1, 4), normal(1, 3, 4, 1, "a"), nil},
		"to be primary":                {lead, m(0, 1, 4), with(lead, marked(0), sent, polled(1, 2, 1, "a", "b")), nil},
		"to be primary, a later view":  {normal(1, 3, 2, 1, "a", "b"), m(0, 1, 4), drawn(with(lead, marked(0), sent, polled(1, 2, 1, "a", "b"))), begun(1, 3, 4)},
		"of two, to be primary":        {changing(1, 2, 3, 2, 0, "a"), m(0, 1, 3), with(changing(1, 2, 3, 2, 0, "a"), marked(0), sent, polled(1, 2, 0, "a")), nil},
		"to be primary, one ballot is there": {with(lead, polled(0, 3, 1, "a", "c")), m(2, 1, 4), reset(normal(1, 3, 4, 1, "a", "c")),
			told(vr.Msg{Kind: 5, From: 1, To: 0, View: 4, Log: logOf("a", "c"), Commit: 1}, vr.Msg{Kind: 5, From: 1, To: 2, View: 4, Log: logOf("a", "c"), Commit: 1})},
	})
	playRefused(t, map[string]refusedCase{
		"to be primary, a ballot of another log": {with(lead, polled(0, 3, 1, "x", "c")), m(2, 1, 4), api.ErrState},
	})
}

// P19.2: messages of Kind 4, and how it starts.
func TestBallot(t *testing.T) {
	m := func(from, view, last, commit int, entries ...string) vr.Event {
		return hear(vr.Msg{Kind: 4, From: from, To: 1, View: view, Last: last, Log: logOf(entries...), Commit: commit})
	}
	begun := func(n, view int) []vr.Msg {
		l := []vr.Msg{{Kind: 3, From: 1, To: 0, View: view}}
		for to := 2; to < n; to++ {
			l = append(l, vr.Msg{Kind: 3, From: 1, To: to, View: view})
		}
		return l
	}
	started := func(n, view, commit int, entries ...string) []vr.Msg {
		l := begun(n, view)
		for i := range l {
			l[i].Kind, l[i].Log, l[i].Commit = 5, logOf(entries...), commit
		}
		return l
	}
	lead := changing(1, 3, 4, 2, 1, "a", "b")
	own := with(lead, marked(0), sent, polled(1, 2, 1, "a", "b"))
	five := with(changing(1, 5, 6, 2, 1, "a", "b"), marked(0, 2), sent, polled(1, 2, 1, "a", "b"))
	now := func(commit int, entries ...string) vr.State { return reset(normal(1, 3, 4, commit, entries...)) }
	two := changing(1, 2, 3, 2, 0, "a")
	full := with(own, func(s *vr.State) {
		s.Ballots[1] = vr.Ballot{Has: true, Last: 2, Log: append(logOf("a", "b"), long(510)...), Commit: 1}
	})
	playCases(t, map[string]stepCase{
		"not its own yet":         {lead, m(0, 4, 3, 0, "x"), with(lead, polled(0, 3, 0, "x")), nil},
		"all but its own":         {with(lead, polled(0, 3, 0, "x")), m(2, 4, 3, 0, "y"), with(lead, polled(0, 3, 0, "x"), polled(2, 3, 0, "y")), nil},
		"a second one of one":     {with(lead, polled(0, 3, 1, "x")), m(0, 4, 1, 0), with(lead, polled(0, 1, 0)), nil},
		"a later view":            {normal(1, 3, 2, 1, "a", "b"), m(0, 4, 3, 1, "x"), drawn(with(lead, polled(0, 3, 1, "x"))), begun(3, 4)},
		"a later view, it led":    {with(normal(1, 3, 1, 1, "a", "b"), matching(0, 2, 1)), m(0, 4, 1, 0), drawn(with(changing(1, 3, 4, 1, 1, "a", "b"), polled(0, 1, 0))), begun(3, 4)},
		"a later view, changing":  {with(own, drawing(1)), m(2, 7, 4, 0), with(changing(1, 3, 7, 2, 1, "a", "b"), polled(2, 4, 0), waited(0, 11)), begun(3, 7)},
		"the last view":           {normal(1, 5, 2, 0), m(0, highest, highest-1, 0), drawn(with(changing(1, 5, highest, 2, 0), polled(0, highest-1, 0))), begun(5, highest)},
		"a normal primary":        {normal(1, 3, 4, 1, "a"), m(2, 4, 4, 0), normal(1, 3, 4, 1, "a"), nil},
		"a normal one, below 0":   {normal(1, 3, 4, 1, "a"), m(2, 4, -1, 0), normal(1, 3, 4, 1, "a"), nil},
		"two of five":             {five, m(3, 6, 5, 0, "x"), with(five, polled(3, 5, 0, "x")), nil},
		"the second of two":       {with(two, marked(0), sent, polled(1, 2, 0, "a")), m(0, 3, 2, 1, "b"), reset(normal(1, 2, 3, 1, "b")), started(2, 3, 1, "b")},
		"a later Last":            {own, m(2, 4, 3, 1, "a"), now(1, "a"), started(3, 4, 1, "a")},
		"an elder Last":           {own, m(2, 4, 1, 2, "a", "x", "y"), now(2, "a", "b"), started(3, 4, 2, "a", "b")},
		"a longer log":            {own, m(2, 4, 2, 0, "a", "x", "y"), now(1, "a", "x", "y"), started(3, 4, 1, "a", "x", "y")},
		"a shorter log":           {own, m(0, 4, 2, 1, "x"), now(1, "a", "b"), started(3, 4, 1, "a", "b")},
		"alike, the first's":      {own, m(0, 4, 2, 0, "a", "z"), now(1, "a", "z"), started(3, 4, 1, "a", "z")},
		"alike, its own is first": {own, m(2, 4, 2, 0, "a", "z"), now(1, "a", "b"), started(3, 4, 1, "a", "b")},
		"the greatest Commit":     {own, m(2, 4, 2, 2, "a", "b"), now(2, "a", "b"), started(3, 4, 2, "a", "b")},
		"Commit at most the log":  {own, m(2, 4, 1, 4, "a", "b", "c", "d"), now(2, "a", "b"), started(3, 4, 2, "a", "b")},
		"its own Commit is later": {with(own, func(s *vr.State) { s.Commit = 2 }), m(2, 4, 2, 0), now(2, "a", "b"), started(3, 4, 2, "a", "b")},
		"nothing anywhere":        {with(changing(1, 3, 4, 0, 0), marked(0), sent, polled(1, 0, 0)), m(2, 4, 0, 0), now(0), started(3, 4, 0)},
		"three of five, the longest of the latest": {with(five, polled(4, 3, 0, "a", "x", "y")), m(3, 6, 5, 0, "a", "z"),
			reset(normal(1, 5, 6, 1, "a", "z")), started(5, 6, 1, "a", "z")},
		"three of five, two of the latest": {with(five, polled(4, 5, 0, "a", "x", "y")), m(3, 6, 5, 2, "a", "z"),
			reset(normal(1, 5, 6, 2, "a", "x", "y")), started(5, 6, 2, "a", "x", "y")},
		"three of five, alike":     {with(five, polled(4, 5, 0, "a", "x")), m(3, 6, 5, 0, "a", "z"), reset(normal(1, 5, 6, 1, "a", "z")), started(5, 6, 1, "a", "z")},
		"a Last above View before": {with(own, polled(0, highest, 0, "a")), m(2, 4, 3, 0), now(1, "a"), started(3, 4, 1, "a")},
	})
	if got, told, err := vr.Step(full, m(0, 4, 2, 0)); err != api.OK || len(got.Log) != 512 || got.Match[1] != 512 || len(told) != 2 || len(told[1].Log) != 512 {
		t.Errorf("a full log: Step = %s, %s, %s", brief(got), brief(told), errorName(err))
	}
	playRefused(t, map[string]refusedCase{
		"not the primary":             {own, m(2, 5, 3, 0), api.ErrState},
		"not the primary, a later":    {normal(1, 3, 2, 0), m(2, 6, 3, 9), api.ErrState},
		"another one":                 {normal(1, 3, 5, 0), m(2, 5, 9, 9), api.ErrState},
		"Commit above the log":        {own, m(2, 4, 3, 2, "a"), api.ErrRange},
		"Commit, normal":              {normal(1, 3, 4, 0), m(2, 4, 3, 1), api.ErrRange},
		"Commit, a later view":        {own, m(2, 7, 3, 1), api.ErrRange},
		"Last above View":             {own, m(2, 4, 5, 0), api.ErrRange},
		"Last above View, normal":     {normal(1, 3, 4, 0), m(2, 4, 5, 0), api.ErrRange},
		"Last the last number":        {normal(1, 3, 4, 0), m(2, 4, math.MaxInt, 0), api.ErrRange},
		"Last is View":                {own, m(2, 4, 4, 0), api.ErrRange},
		"Last is View, a later view":  {normal(1, 3, 2, 0), m(2, 4, 4, 0), api.ErrRange},
		"Last below 0":                {own, m(2, 4, -1, 0), api.ErrRange},
		"Last below 0, a later view":  {own, m(2, 7, math.MinInt, 0), api.ErrRange},
		"another log is the latest":   {own, m(2, 4, 3, 0, "x", "b", "c"), api.ErrState},
		"the latest log is too short": {own, m(2, 4, 3, 0), api.ErrState},
	})
}

// P19.2: messages of Kind 5.
func TestStart(t *testing.T) {
	m := func(commit int, entries ...string) vr.Event {
		return hear(vr.Msg{Kind: 5, From: 1, To: 2, View: 4, Log: logOf(entries...), Commit: commit})
	}
	has := func(n int) []vr.Msg { return told(vr.Msg{Kind: 2, From: 2, To: 1, View: 4, Match: n}) }
	now := func(commit int, entries ...string) vr.State { return reset(normal(2, 3, 4, commit, entries...)) }
	left := with(changing(2, 3, 4, 2, 1, "a", "b"), marked(0), sent)
	playCases(t, map[string]stepCase{
		"changing":                   {left, m(2, "a", "x", "y"), now(2, "a", "x", "y"), has(3)},
		"changing, a shorter log":    {left, m(1, "a"), now(1, "a"), has(1)},
		"changing, a lesser Commit":  {with(left, func(s *vr.State) { s.Commit = 2 }), m(0, "a", "b"), now(2, "a", "b"), has(2)},
		"changing, nothing":          {changing(2, 3, 4, 2, 0, "a", "b"), m(0), now(0), has(0)},
		"an elder view":              {normal(2, 3, 3, 1, "a", "b"), m(1, "a", "c"), now(1, "a", "c"), has(2)},
		"an elder view, it led":      {with(normal(2, 3, 2, 1, "a", "b"), matching(0, 1, 2)), m(2, "a", "b"), now(2, "a", "b"), has(2)},
		"an elder view, changing":    {with(changing(2, 3, 3, 1, 0), marked(0, 1), sent), m(1, "a"), now(1, "a"), has(1)},
		"an elder view, to be first": {with(changing(2, 3, 2, 1, 0, "z"), marked(0), sent, polled(2, 1, 0, "z")), m(0), now(0), has(0)},
		"no draw is taken":           {with(left, drawing(4)), m(1, "a"), with(now(1, "a"), drawing(4)), has(1)},
		"normal":                     {normal(2, 3, 4, 1, "a", "b"), m(2, "x", "y", "z"), normal(2, 3, 4, 1, "a", "b"), has(2)},
		"the last view":              {normal(0, 3, 2, 0), hear(vr.Msg{Kind: 5, From: highest % 3, To: 0, View: highest}), reset(normal(0, 3, highest, 0)), told(vr.Msg{Kind: 2, To: highest % 3, View: highest})},
	})
	playRefused(t, map[string]refusedCase{
		"not from the primary":        {left, hear(vr.Msg{Kind: 5, From: 0, To: 2, View: 4, Log: logOf("a")}), api.ErrState},
		"not from it, normal":         {normal(2, 3, 4, 0), hear(vr.Msg{Kind: 5, From: 0, To: 2, View: 4}), api.ErrState},
		"to the primary of that view": {left, hear(vr.Msg{Kind: 5, From: 0, To: 2, View: 5, Log: logOf("a")}), api.ErrState},
		"to a normal primary":         {normal(1, 3, 4, 0), hear(vr.Msg{Kind: 5, From: 0, To: 1, View: 4}), api.ErrState},
		"not from it, and Commit":     {left, hear(vr.Msg{Kind: 5, From: 0, To: 2, View: 4, Commit: 1}), api.ErrState},
		"Commit above the log":        {left, m(2, "a"), api.ErrRange},
		"Commit, normal":              {normal(2, 3, 4, 0), m(1), api.ErrRange},
		"Commit, another log":         {left, m(2, "x"), api.ErrRange},
		"another log":                 {left, m(1, "x", "b"), api.ErrState},
		"another log, an elder view":  {normal(2, 3, 3, 2, "a", "b"), m(1, "a", "x"), api.ErrState},
		"too short a log":             {left, m(0), api.ErrState},
		"a piece of an entry":         {normal(2, 3, 3, 1, "ab"), m(1, "a"), api.ErrState},
	})
}

// P19.2: messages of Kind 6 and 7.
func TestGap(t *testing.T) {
	ask := func(view, prev int) vr.Event { return hear(vr.Msg{Kind: 6, From: 0, To: 1, View: view, Prev: prev}) }
	brings := func(view, prev, commit int, entries ...string) []vr.Msg {
		return told(vr.Msg{Kind: 7, From: 1, To: 0, View: view, Prev: prev, Log: logOf(entries...), Commit: commit})
	}
	leader, other := normal(1, 3, 4, 1, "a", "b", "c"), normal(1, 3, 5, 2, "a", "b", "c")
	playCases(t, map[string]stepCase{
		"some":           {leader, ask(4, 1), leader, brings(4, 1, 1, "b", "c")},
		"all":            {leader, ask(4, 0), leader, brings(4, 0, 1, "a", "b", "c")},
		"none":           {leader, ask(4, 3), leader, brings(4, 3, 1)},
		"too far":        {leader, ask(4, 4), leader, nil},
		"much too far":   {leader, ask(4, 512), leader, nil},
		"of another one": {other, ask(5, 2), other, brings(5, 2, 2, "c")},
		"a later view":   {leader, ask(5, 1), leader, nil},
		"changing":       {changing(1, 3, 5, 4, 1, "a"), ask(5, 0), changing(1, 3, 5, 4, 1, "a"), nil},
		"to be primary":  {changing(1, 3, 4, 3, 1, "a"), ask(4, 0), changing(1, 3, 4, 3, 1, "a"), nil},
	})
	full := with(leader, func(s *vr.State) { s.Log, s.Commit, s.Match = long(mostEntries), mostEntries, []int{0, mostEntries, 0} })
	if _, told, err := vr.Step(full, ask(4, 0)); err != api.OK || len(told) != 1 || !sameLog(told[0].Log, full.Log) || told[0].Commit != mostEntries {
		t.Errorf("a full log: Step = %s, %s", brief(told), errorName(err))
	}
}

func TestBring(t *testing.T) {
	m := func(from, prev, commit int, entries ...string) vr.Event {
		return hear(vr.Msg{Kind: 7, From: from, To: 2, View: 4, Prev: prev, Log: logOf(entries...), Commit: commit})
	}
	has := func(to, n int) []vr.Msg { return told(vr.Msg{Kind: 2, From: 2, To: to, View: 4, Match: n}) }
	now := func(commit int, entries ...string) vr.State { return normal(2, 3, 4, commit, entries...) }
	s := now(1, "a", "b")
	left := with(changing(2, 3, 4, 2, 1, "a", "b"), marked(0), sent)
	full := now(0)
	full.Log = long(mostEntries)
	playCases(t, map[string]stepCase{
		"normal, one more":          {s, m(1, 2, 2, "c"), now(2, "a", "b", "c"), has(1, 3)},
		"normal, from another":      {s, m(0, 2, 3, "c"), now(3, "a", "b", "c"), has(0, 3)},
		"normal, some is there":     {s, m(1, 1, 1, "x", "c"), now(1, "a", "b", "c"), has(1, 3)},
		"normal, all is there":      {s, m(1, 0, 0, "a"), s, has(1, 2)},
		"normal, Commit alone":      {s, m(1, 2, 2), now(2, "a", "b"), has(1, 2)},
		"normal, a lesser Commit":   {s, m(1, 2, 0, "c"), now(1, "a", "b", "c"), has(1, 3)},
		"normal, a gap":             {s, m(1, 3, 3, "d"), s, nil},
		"normal, full":              {full, m(1, 511, 0, "x"), full, has(1, 512)},
		"changing":                  {left, m(1, 1, 2, "x", "y"), reset(now(2, "a", "x", "y")), has(1, 3)},
		"changing, from another":    {left, m(0, 1, 1, "x"), reset(now(1, "a", "x")), has(1, 2)},
		"changing, from the first":  {left, m(1, 0, 2, "a", "x"), reset(now(2, "a", "x")), has(1, 2)},
		"changing, cut off":         {left, m(1, 1, 0), reset(now(1, "a")), has(1, 1)},
		"changing, all cut off":     {changing(2, 3, 4, 2, 0, "a", "b"), m(1, 0, 0), reset(now(0)), has(1, 0)},
		"changing, its Commit":      {with(left, func(s *vr.State) { s.Commit = 2 }), m(1, 2, 0, "x"), reset(now(2, "a", "b", "x")), has(1, 3)},
		"changing, behind Commit":   {left, m(1, 2, 2, "c"), left, nil},
		"changing, far behind":      {left, m(1, 512, 512), left, nil},
		"changing, no draw":         {with(left, drawing(3)), m(1, 1, 1), with(reset(now(1, "a")), drawing(3)), has(1, 1)},
		"an elder view":             {normal(2, 3, 3, 1, "a", "b"), m(0, 1, 1, "x"), reset(now(1, "a", "x")), has(1, 2)},
		"an elder view, it led":     {with(normal(2, 3, 2, 1, "a", "b"), matching(1, 1, 2)), m(1, 1, 1, "x"), reset(now(1, "a", "x")), has(1, 2)},
		"an elder view, to be":      {with(changing(2, 3, 2, 1, 1, "a"), polled(2, 1, 0)), m(1, 1, 1), reset(now(1, "a")), has(1, 1)},
		"an elder one, behind it":   {normal(2, 3, 3, 1, "a", "b"), m(1, 2, 2, "x"), normal(2, 3, 3, 1, "a", "b"), nil},
		"its own view, behind it":   {normal(2, 3, 4, 1, "a", "b"), hear(vr.Msg{Kind: 7, From: 1, To: 2, View: 5, Prev: 2}), s, nil},
		"to be primary, behind it":  {changing(2, 3, 5, 4, 1, "a"), hear(vr.Msg{Kind: 7, From: 1, To: 2, View: 5, Prev: 2}), changing(2, 3, 5, 4, 1, "a"), nil},
		"entries up to the 512th":   {changing(2, 3, 4, 2, 0), hear(vr.Msg{Kind: 7, From: 1, To: 2, View: 4, Log: long(512)}), reset(with(now(0), func(s *vr.State) { s.Log = long(512) })), has(1, 512)},
		"cut off and up to the end": {with(full, func(s *vr.State) { s.View, s.Last, s.Commit = 3, 3, 2 }), hear(vr.Msg{Kind: 7, From: 1, To: 2, View: 4, Prev: 2, Log: long(512)[2:]}), reset(with(full, func(s *vr.State) { s.Commit = 2 })), has(1, 512)},
	})
	other := hear(vr.Msg{Kind: 7, From: 1, To: 2, View: 5, Prev: 1, Log: logOf("x")})
	playRefused(t, map[string]refusedCase{
		"Commit above all":               {s, m(1, 2, 4, "c"), api.ErrRange},
		"Commit above all, changing":     {left, m(1, 0, 1), api.ErrRange},
		"Commit above all, behind":       {left, m(1, 2, 3), api.ErrRange},
		"Commit ahead of state":          {normal(2, 3, 5, 0), hear(vr.Msg{Kind: 7, From: 1, To: 2, View: 5, Commit: 1}), api.ErrRange},
		"a normal primary":               {normal(2, 3, 5, 1, "a"), other, api.ErrState},
		"a normal primary, a gap":        {normal(2, 3, 5, 0), other, api.ErrState},
		"to be primary":                  {changing(2, 3, 5, 4, 1, "a"), other, api.ErrState},
		"to be primary, a later view":    {s, other, api.ErrState},
		"to be primary, full":            {s, hear(vr.Msg{Kind: 7, From: 1, To: 2, View: 5, Prev: 1, Log: long(512)}), api.ErrState},
		"full":                           {s, hear(vr.Msg{Kind: 7, From: 1, To: 2, View: 4, Prev: 2, Log: long(511)}), api.ErrFull},
		"full, changing":                 {left, hear(vr.Msg{Kind: 7, From: 1, To: 2, View: 4, Prev: 1, Log: long(512)}), api.ErrFull},
		"full ahead of another log":      {with(left, func(s *vr.State) { s.Commit = 2 }), hear(vr.Msg{Kind: 7, From: 1, To: 2, View: 4, Prev: 1, Log: long(512)}), api.ErrFull},
		"another log":                    {left, m(1, 0, 0, "x", "b"), api.ErrState},
		"too short a log":                {left, m(1, 0, 0), api.ErrState},
		"another log, an elder view":     {normal(2, 3, 3, 2, "a", "b"), m(0, 1, 1, "x", "y"), api.ErrState},
		"a primary hears one of its own": {normal(2, 3, 2, 0), hear(vr.Msg{Kind: 7, From: 1, To: 2, View: 2}), api.ErrState},
	})
}

// P19.2: three replicas, from the first to another view, step by step.
func TestStory(t *testing.T) {
	var nodes []vr.State
	for id := range 3 {
		s, _ := vr.New(id, 3, nil)
		nodes = append(nodes, s)
	}
	step := func(id int, e vr.Event) []vr.Msg {
		t.Helper()
		s, told, err := vr.Step(nodes[id], e)
		if err != api.OK {
			t.Fatalf("%s, %s: %s", brief(nodes[id]), brief(e), errorName(err))
		}
		nodes[id] = s
		return told
	}
	deliver := func(l []vr.Msg) []vr.Msg {
		t.Helper()
		var told []vr.Msg
		for _, m := range l {
			told = append(told, step(m.To, hear(m))...)
		}
		return told
	}
	step(0, ask("a"))
	step(0, ask("b"))
	step(0, tick())
	step(0, tick())
	deliver(deliver(step(0, tick())[1:]))
	if nodes[0].Commit != 2 || len(nodes[2].Log) != 2 || len(nodes[1].Log) != 0 {
		t.Fatalf("behind a prepare: %s", brief(nodes))
	}
	// Replica 0 is not heard any more; replica 1 waits less than the other.
	var begun []vr.Msg
	for range 11 {
		begun = append(begun, step(1, tick())...)
	}
	if nodes[1].View != 1 || len(begun) != 2 {
		t.Fatalf("it changes: %s, %s", brief(nodes[1]), brief(begun))
	}
	others := deliver(begun[1:])
	toFirst := slices.DeleteFunc(others, func(m vr.Msg) bool { return m.To == 0 })
	started := deliver(toFirst)
	if nodes[1].Status != 0 || nodes[1].Last != 1 || !sameLog(nodes[1].Log, logOf("a", "b")) || len(started) != 2 {
		t.Fatalf("it starts: %s, %s", brief(nodes[1]), brief(started))
	}
	deliver(deliver(started))
	for _, s := range nodes {
		if s.View != 1 || s.Status != 0 || !sameLog(s.Log, logOf("a", "b")) {
			t.Fatalf("they follow: %s", brief(nodes))
		}
	}
	if nodes[1].Commit != 2 {
		t.Errorf("it settles: %s", brief(nodes[1]))
	}
}
