package net_test

import (
	"bytes"
	"math"
	"math/rand"
	"reflect"
	"runtime/debug"
	"slices"
	"strconv"
	"testing"
	"unsafe"

	"undercroft/api"
	"undercroft/net"
)

// The faces keep the signatures of the chapter.
var (
	_ func(int) (net.State, api.Errno)                         = net.New
	_ func(net.State) api.Errno                                = net.Check
	_ func(net.State, net.Packet) (net.State, bool, api.Errno) = net.Send
	_ func(net.State, int) (net.State, net.Packet, api.Errno)  = net.Take
	_ func(net.State, int) (net.State, api.Errno)              = net.Drop
	_ func(net.State, int) (net.State, bool, api.Errno)        = net.Double
	_ func(net.State, int) ([]int, api.Errno)                  = net.For
)

// octets is n octets that differ from their neighbours.
func octets(seed, n int) []byte {
	b := make([]byte, n)
	for i := range b {
		b[i] = byte(1 + (seed*37+i*5)%255)
	}
	return b
}

// packet is one whose nodes and octets hang on its number.
func packet(i int) net.Packet {
	return net.Packet{From: i % 9, To: i * 2 % 9, Data: octets(i, i%7)}
}

// made is a network with so many packets, each unlike its neighbours.
func made(limit, n int) net.State {
	s := net.State{Limit: limit}
	for i := range n {
		s.Packets = append(s.Packets, packet(i))
	}
	return s
}

func copied(s net.State) net.State {
	out := net.State{Limit: s.Limit}
	for _, p := range s.Packets {
		p.Data = slices.Clone(p.Data)
		out.Packets = append(out.Packets, p)
	}
	return out
}

// with is s and the packets behind its own.
func with(s net.State, more ...net.Packet) net.State {
	out := copied(s)
	out.Packets = append(out.Packets, more...)
	return out
}

// without is s less its k-th packet.
func without(s net.State, k int) net.State {
	return net.State{Limit: s.Limit, Packets: slices.Concat(s.Packets[:k], s.Packets[k+1:])}
}

// same and samePacket take nil and empty lists as one.
func same(a, b net.State) bool {
	return a.Limit == b.Limit && slices.EqualFunc(a.Packets, b.Packets, samePacket)
}

func samePacket(a, b net.Packet) bool {
	return a.From == b.From && a.To == b.To && bytes.Equal(a.Data, b.Data)
}

func isZero(s net.State) bool {
	return same(s, net.State{})
}

// refused is a packet that may not be, and the error that sending it answers.
type refused struct {
	p    net.Packet
	want api.Errno
}

// wrongPackets holds packets that may not be, by what is wrong with them.
func wrongPackets() map[string]refused {
	long := octets(1, 4097)
	return map[string]refused{
		"from below":        {net.Packet{From: -1, To: 3}, api.ErrRange},
		"from above":        {net.Packet{From: 9, To: 3}, api.ErrRange},
		"from least":        {net.Packet{From: math.MinInt, To: 3}, api.ErrRange},
		"from most":         {net.Packet{From: math.MaxInt, To: 3}, api.ErrRange},
		"to below":          {net.Packet{From: 3, To: -1}, api.ErrRange},
		"to above":          {net.Packet{From: 3, To: 9}, api.ErrRange},
		"to least":          {net.Packet{From: 3, To: math.MinInt}, api.ErrRange},
		"to most":           {net.Packet{From: 3, To: math.MaxInt}, api.ErrRange},
		"both":              {net.Packet{From: -1, To: 9}, api.ErrRange},
		"long by one":       {net.Packet{From: 3, To: 3, Data: long}, api.ErrLong},
		"long":              {net.Packet{Data: octets(1, 100000)}, api.ErrLong},
		"from and long":     {net.Packet{From: 9, Data: long}, api.ErrRange},
		"to below and long": {net.Packet{To: -1, Data: long}, api.ErrRange},
	}
}

// wrongStates holds states that may not be, each for one cause.
func wrongStates() map[string]net.State {
	list := map[string]net.State{
		"zero":             {},
		"empty":            {Packets: []net.Packet{}},
		"limit 0":          made(0, 1),
		"limit below":      made(-1, 0),
		"limit least":      made(math.MinInt, 3),
		"limit above":      made(4097, 0),
		"limit most":       made(math.MaxInt, 2),
		"one over limit 1": made(1, 2),
		"one over limit 3": made(3, 4),
		"one over all":     made(4096, 4097),
	}
	for name, c := range wrongPackets() {
		for _, place := range []int{0, 1, 4} {
			s := made(5, 5)
			s.Packets[place] = c.p
			list["packet "+strconv.Itoa(place)+": "+name] = s
		}
	}
	return list
}

// P4.1: New, with its edges and wrong numbers.
func TestNew(t *testing.T) {
	for _, limit := range []int{1, 2, 64, 4095, 4096} {
		s, err := net.New(limit)
		if err != api.OK || !same(s, net.State{Limit: limit}) {
			t.Errorf("New(%d) = %v, %d", limit, s, err)
		}
		if err := net.Check(s); err != api.OK {
			t.Errorf("Check(New(%d)) = %d", limit, err)
		}
	}
	for _, limit := range []int{0, -1, 4097, 8192, math.MinInt, math.MaxInt} {
		if s, err := net.New(limit); err != api.ErrRange || !isZero(s) {
			t.Errorf("New(%d) = %v, %d", limit, s, err)
		}
	}
}

// P4.1: Check, with states at the edges, and those that may not be.
func TestCheck(t *testing.T) {
	for name, s := range map[string]net.State{
		"limit 1":     made(1, 0),
		"limit 4096":  made(4096, 3),
		"empty list":  {Limit: 1, Packets: []net.Packet{}},
		"full":        made(1, 1),
		"full of all": made(4096, 4096),
		"nodes 0":     with(made(2, 0), net.Packet{From: 0, To: 0}),
		"nodes 8":     with(made(2, 0), net.Packet{From: 8, To: 8, Data: []byte{}}),
		"4096 octets": with(made(2, 1), net.Packet{From: 8, To: 0, Data: octets(1, 4096)}),
	} {
		if err := net.Check(s); err != api.OK {
			t.Errorf("%s: Check = %d", name, err)
		}
	}
	for name, s := range wrongStates() {
		if err := net.Check(s); err != api.ErrState {
			t.Errorf("%s: Check = %d", name, err)
		}
	}
}

// P4.1: all others answer Check's error first, whatever else is wrong.
func TestCheckFirst(t *testing.T) {
	for name, s := range wrongStates() {
		for _, k := range []int{0, 1, -1, 5000} {
			sent, isSent, sendErr := net.Send(s, net.Packet{From: k, To: k, Data: octets(1, 4097)})
			left, p, takeErr := net.Take(s, k)
			dropped, dropErr := net.Drop(s, k)
			doubled, isDoubled, doubleErr := net.Double(s, k)
			places, forErr := net.For(s, k)
			for i, err := range []api.Errno{sendErr, takeErr, dropErr, doubleErr, forErr} {
				if err != api.ErrState {
					t.Errorf("%s: call %d with %d: %d", name, i, k, err)
				}
			}
			if !isZero(sent) || isSent || !isZero(left) || !samePacket(p, net.Packet{}) || !isZero(dropped) || !isZero(doubled) || isDoubled || len(places) != 0 {
				t.Errorf("%s: an answer beside the error", name)
			}
		}
	}
}

// P4.1: Send puts a packet behind the others, while there is room.
func TestSend(t *testing.T) {
	for _, s := range []net.State{made(1, 0), made(2, 1), made(5, 3), made(4096, 0), made(4096, 4095)} {
		for _, p := range []net.Packet{
			{},
			{From: 8, To: 8, Data: []byte{0}},
			{From: 0, To: 8, Data: []byte{}},
			{From: 3, To: 3, Data: octets(1, 4095)},
			{From: 8, To: 0, Data: octets(2, 4096)},
		} {
			got, ok, err := net.Send(s, p)
			if err != api.OK || !ok || !same(got, with(s, p)) {
				t.Errorf("Send of %d octets to %d of %d: %v, %d", len(p.Data), len(s.Packets), s.Limit, ok, err)
			}
		}
	}
}

// P4.1: a network that holds Limit packets loses what is sent, and stays as it is.
func TestSendFull(t *testing.T) {
	for _, limit := range []int{1, 2, 7, 4096} {
		s := made(limit, limit)
		for _, p := range []net.Packet{{}, {From: 8, To: 8, Data: octets(1, 4096)}} {
			if got, ok, err := net.Send(s, p); err != api.OK || ok || !same(got, s) {
				t.Errorf("Send at limit %d: %v, %d, %d packets", limit, ok, err, len(got.Packets))
			}
		}
	}
}

// P4.1 and P4: Send refuses, in the order of the errors, whether there is room or not.
func TestSendRefuses(t *testing.T) {
	for name, c := range wrongPackets() {
		for _, s := range []net.State{made(4, 2), made(2, 2), made(1, 0)} {
			if got, ok, err := net.Send(s, c.p); err != c.want || ok || !isZero(got) {
				t.Errorf("%s: %v, %d, want %d", name, ok, err, c.want)
			}
		}
	}
}

// P4.1, P4.3: Take tells the k-th packet and takes it off, Drop takes it off alone; the others stay in order.
func TestTakeAndDrop(t *testing.T) {
	for n := 1; n <= 6; n++ {
		for _, limit := range []int{n, n + 1, 4096} {
			s := made(limit, n)
			for k := range n {
				left, p, err := net.Take(s, k)
				if err != api.OK || !samePacket(p, packet(k)) || !same(left, without(s, k)) {
					t.Errorf("Take(%d) of %d: %v, %v, %d", k, n, left, p, err)
				}
				if left, err := net.Drop(s, k); err != api.OK || !same(left, without(s, k)) {
					t.Errorf("Drop(%d) of %d: %v, %d", k, n, left, err)
				}
			}
		}
	}
	s := made(4096, 4096)
	for _, k := range []int{0, 2000, 4095} {
		if left, p, err := net.Take(s, k); err != api.OK || !samePacket(p, packet(k)) || !same(left, without(s, k)) {
			t.Errorf("Take(%d) of 4096: %v, %d", k, p, err)
		}
	}
}

// P4.1: Double puts a copy of the k-th packet behind the others, while there is room.
func TestDouble(t *testing.T) {
	for n := 1; n <= 6; n++ {
		for k := range n {
			for _, limit := range []int{n + 1, 4096} {
				s := made(limit, n)
				if got, ok, err := net.Double(s, k); err != api.OK || !ok || !same(got, with(s, packet(k))) {
					t.Errorf("Double(%d) of %d: %v, %v, %d", k, n, got, ok, err)
				}
			}
			s := made(n, n)
			if got, ok, err := net.Double(s, k); err != api.OK || ok || !same(got, s) {
				t.Errorf("Double(%d) of %d at its limit: %v, %v, %d", k, n, got, ok, err)
			}
		}
	}
}

// P4.1: there is no k-th packet.
func TestNoSuchPacket(t *testing.T) {
	for _, s := range []net.State{made(1, 0), made(4, 0), made(4, 1), made(4, 3), made(4, 4), made(4096, 4096)} {
		n := len(s.Packets)
		for _, k := range []int{-1, -n, n, n + 1, 4097, math.MinInt, math.MaxInt} {
			if k >= 0 && k < n {
				continue
			}
			left, p, takeErr := net.Take(s, k)
			dropped, dropErr := net.Drop(s, k)
			doubled, ok, doubleErr := net.Double(s, k)
			if takeErr != api.ErrNone || dropErr != api.ErrNone || doubleErr != api.ErrNone {
				t.Errorf("place %d of %d: %d, %d, %d", k, n, takeErr, dropErr, doubleErr)
			}
			if !isZero(left) || !samePacket(p, net.Packet{}) || !isZero(dropped) || !isZero(doubled) || ok {
				t.Errorf("place %d of %d: an answer beside the error", k, n)
			}
		}
	}
}

// P4.1: For tells all places of a node's packets, rising; it asks for To, not From.
func TestFor(t *testing.T) {
	s := net.State{Limit: 7, Packets: []net.Packet{{From: 1, To: 0}, {From: 2, To: 8}, {From: 8, To: 0}, {From: 0, To: 3}, {From: 3, To: 0}, {From: 0, To: 8}}}
	for to, want := range map[int][]int{
		0: {0, 2, 4}, 8: {1, 5}, 3: {3}, 1: nil, 2: nil,
		-1: nil, 9: nil, math.MinInt: nil, math.MaxInt: nil,
	} {
		if got, err := net.For(s, to); err != api.OK || !slices.Equal(got, want) {
			t.Errorf("For(%d) = %v, %d, want %v", to, got, err, want)
		}
	}
	if got, err := net.For(made(3, 0), 0); err != api.OK || len(got) != 0 {
		t.Errorf("For of none on their way: %v, %d", got, err)
	}
	s = made(4096, 4096)
	total := 0
	for to := range 9 {
		got, err := net.For(s, to)
		if err != api.OK || !slices.IsSorted(got) {
			t.Errorf("For(%d): %d", to, err)
		}
		total += len(got)
		for _, place := range got {
			if s.Packets[place].To != to {
				t.Errorf("For(%d) tells %d, which is for %d", to, place, s.Packets[place].To)
			}
		}
	}
	if total != 4096 {
		t.Errorf("For tells %d places of 4096", total)
	}
}

// Example 1 of the chapter.
func TestExample(t *testing.T) {
	s, _ := net.New(2)
	for i := range 3 {
		next, ok, err := net.Send(s, packet(i))
		if err != api.OK || ok != (i < 2) {
			t.Errorf("Send %d: %v, %d", i, ok, err)
		}
		s = next
	}
	if !same(s, made(2, 2)) {
		t.Errorf("on their way: %v", s)
	}
}

// P4.2: what is taken was sent, and none more often than it was sent and doubled; what is neither taken nor dropped is on its way.
func TestTakenWasSent(t *testing.T) {
	chance := rand.New(rand.NewSource(42))
	for range 200 {
		limit := 1 + chance.Intn(6)
		s, _ := net.New(limit)
		there := map[string]int{}
		for step := range 60 {
			k := chance.Intn(limit)
			switch chance.Intn(4) {
			case 0:
				p := net.Packet{From: chance.Intn(9), To: chance.Intn(9), Data: []byte(strconv.Itoa(step))}
				next, ok, _ := net.Send(s, p)
				if ok {
					there[key(p)]++
				}
				s = next
			case 1:
				if next, p, err := net.Take(s, k); err == api.OK {
					there[key(p)]--
					s = next
				}
			case 2:
				if next, err := net.Drop(s, k); err == api.OK {
					there[key(s.Packets[k])]--
					s = next
				}
			case 3:
				if next, ok, err := net.Double(s, k); err == api.OK {
					if ok {
						there[key(s.Packets[k])]++
					}
					s = next
				}
			}
			left := map[string]int{}
			for _, p := range s.Packets {
				left[key(p)]++
			}
			for name, n := range there {
				if n < 0 || n != left[name] {
					t.Fatalf("step %d: %s: %d more were put than went, %d are on their way", step, name, n, left[name])
				}
				delete(left, name)
			}
			if len(left) > 0 {
				t.Fatalf("step %d: on their way, but never sent: %v", step, left)
			}
		}
	}
}

// key tells all of a packet as one text.
func key(p net.Packet) string {
	return strconv.Itoa(p.From) + " " + strconv.Itoa(p.To) + " " + string(p.Data)
}

// spans tells where each list of s lies in memory, up to its capacity.
func spans(s net.State) [][2]uintptr {
	list := [][2]uintptr{span(s.Packets)}
	for _, p := range s.Packets {
		list = append(list, span(p.Data))
	}
	return list
}

func span[T any](list []T) [2]uintptr {
	from := uintptr(unsafe.Pointer(unsafe.SliceData(list)))
	return [2]uintptr{from, from + uintptr(cap(list))*unsafe.Sizeof(*new(T))}
}

// apart tells whether no two of the spans overlap.
func apart(list [][2]uintptr) bool {
	list = slices.DeleteFunc(slices.Clone(list), func(s [2]uintptr) bool { return s[0] == s[1] })
	slices.SortFunc(list, func(a, b [2]uintptr) int { return slices.Compare(a[:], b[:]) })
	for i := range list {
		if i > 0 && list[i][0] < list[i-1][1] {
			return false
		}
	}
	return true
}

// answers makes every call on s, and tells the states that they answered, and where all lists of all answers lie.
func answers(s net.State, p net.Packet) ([]net.State, [][2]uintptr) {
	fresh, _ := net.New(3)
	sent, _, _ := net.Send(s, p)
	again, _, _ := net.Send(s, s.Packets[0])
	left, taken, _ := net.Take(s, 1)
	rest, last, _ := net.Take(s, len(s.Packets)-1)
	dropped, _ := net.Drop(s, 0)
	doubled, _, _ := net.Double(s, 1)
	places, _ := net.For(s, s.Packets[1].To)
	states := []net.State{fresh, sent, again, left, rest, dropped, doubled}
	list := [][2]uintptr{span(taken.Data), span(last.Data), span(places)}
	for _, answer := range states {
		list = append(list, spans(answer)...)
	}
	return states, list
}

// P4.4: what is handed in is not changed, and an answer shares no memory with it, with another answer, nor within itself.
func TestMemory(t *testing.T) {
	// Nothing is collected meanwhile: memory that nobody holds would come back in later answers.
	defer debug.SetGCPercent(debug.SetGCPercent(-1))
	// Lists that share memory go in as well: all lists of an answer are its own all the same.
	one := octets(3, 20)
	shared := net.State{Limit: 6, Packets: []net.Packet{{To: 1, Data: one}, {To: 1, Data: one}, {To: 2, Data: one[:5]}}}
	roomy := net.State{Limit: 50, Packets: append(make([]net.Packet, 0, 50), packet(4), packet(5), packet(6))}
	roomy.Packets[1].Data = append(make([]byte, 0, 90), "abc"...)
	empty := net.State{Limit: 9, Packets: []net.Packet{{Data: one[:0]}, {Data: []byte{}}, {Data: one[3:3]}}}
	for _, s := range []net.State{made(9, 5), made(5, 5), shared, roomy, empty} {
		for _, data := range [][]byte{octets(8, 30), octets(8, 30)[:4], octets(8, 30)[:0], one} {
			before, sent := copied(s), slices.Clone(data)
			p := net.Packet{From: 1, To: 2, Data: data}
			_, first := answers(s, p)
			states, second := answers(s, p)
			list := slices.Concat(first, second)
			if !apart(list) {
				t.Error("answers share memory")
			}
			for _, given := range append(spans(s), span(data)) {
				for _, answer := range list {
					if !apart([][2]uintptr{given, answer}) {
						t.Fatal("an answer shares memory with what was handed in")
					}
				}
			}
			// Whatever becomes of the answers, what was handed in is as it was.
			for _, answer := range states {
				for i := range answer.Packets {
					clear(answer.Packets[i].Data)
					answer.Packets[i].From = 7
				}
			}
			if !same(s, before) || !bytes.Equal(data, sent) {
				t.Error("what was handed in is changed")
			}
		}
	}
	if spare := roomy.Packets[:4][3]; spare.Data != nil || spare.To != 0 {
		t.Error("something stands behind the packets that were handed in")
	}
}

// P3: the same call answers the same again.
func TestAgain(t *testing.T) {
	run := func() []any {
		s := made(8, 5)
		sent, isSent, _ := net.Send(s, packet(11))
		doubled, isDoubled, _ := net.Double(sent, 2)
		left, taken, _ := net.Take(doubled, 3)
		dropped, _ := net.Drop(left, 0)
		places, _ := net.For(dropped, 4)
		return []any{sent, isSent, doubled, isDoubled, left, taken, dropped, places}
	}
	if !reflect.DeepEqual(run(), run()) {
		t.Error("the same calls answer otherwise")
	}
}

// FuzzNet plays any script beside a plain model: what is on its way, in which order, and what each call answers.
func FuzzNet(f *testing.F) {
	f.Add(1, []byte{})
	f.Add(2, []byte{0, 0, 5, 0, 1, 9, 0, 2, 9, 3, 0, 0, 1, 1, 0, 3, 0, 0, 2, 0, 0})
	f.Add(5, []byte{0, 70, 3, 0, 71, 4, 3, 1, 0, 3, 1, 0, 3, 2, 0, 3, 0, 0, 1, 2, 0, 2, 1, 0, 1, 0, 0, 2, 9, 0})
	f.Add(4096, []byte{0, 99, 1, 0, 98, 255, 0, 9, 9, 2, 0, 0, 1, 0, 0, 1, 0, 0})
	f.Add(0, []byte{1, 2, 3})
	f.Add(4097, []byte{0, 0, 0})
	f.Add(-5, []byte{2, 2, 2})
	f.Fuzz(func(t *testing.T, limit int, script []byte) {
		s, err := net.New(limit)
		if limit < 1 || limit > 4096 {
			if err != api.ErrRange {
				t.Fatalf("New(%d): %d", limit, err)
			}
			return
		}
		m := &model{limit: limit}
		for at := 0; at+2 < min(len(script), 300); at += 3 {
			s = m.step(t, s, script[at]%4, int(script[at+1]), int(script[at+2]))
			m.hold(t, s)
		}
	})
}

// model keeps what is on its way as texts, and for whom each is.
type model struct {
	limit int
	keys  []string
	to    []int
}

func (m *model) put(name string, to int) bool {
	if len(m.keys) == m.limit {
		return false
	}
	m.keys, m.to = append(m.keys, name), append(m.to, to)
	return true
}

func (m *model) lose(k int) {
	m.keys, m.to = slices.Delete(m.keys, k, k+1), slices.Delete(m.to, k, k+1)
}

// step plays one event; the places and nodes that it names lie one beyond what there is on each side.
func (m *model) step(t *testing.T, s net.State, kind byte, a, b int) net.State {
	if kind == 0 {
		return m.send(t, s, net.Packet{From: a%11 - 1, To: a/11%11 - 1, Data: octets(b, 17*b)})
	}
	k := a%(len(m.keys)+2) - 1
	none := k < 0 || k >= len(m.keys)
	var next net.State
	var err api.Errno
	switch kind {
	case 1:
		var p net.Packet
		next, p, err = net.Take(s, k)
		if !none && (key(p) != m.keys[k] || p.To != m.to[k]) {
			t.Fatalf("Take(%d) tells %v", k, p)
		}
	case 2:
		next, err = net.Drop(s, k)
	case 3:
		var ok bool
		next, ok, err = net.Double(s, k)
		if ok != (!none && m.put(m.keys[k], m.to[k])) {
			t.Fatalf("Double(%d) tells %v", k, ok)
		}
	}
	if none != (err == api.ErrNone) || !none && err != api.OK {
		t.Fatalf("kind %d at %d of %d: %d", kind, k, len(m.keys), err)
	}
	if none {
		return s
	}
	if kind != 3 {
		m.lose(k)
	}
	return next
}

func (m *model) send(t *testing.T, s net.State, p net.Packet) net.State {
	next, ok, err := net.Send(s, p)
	want := api.OK
	switch {
	case p.From < 0 || p.From > 8 || p.To < 0 || p.To > 8:
		want = api.ErrRange
	case len(p.Data) > 4096:
		want = api.ErrLong
	}
	if err != want || ok != (want == api.OK && m.put(key(p), p.To)) {
		t.Fatalf("Send from %d to %d of %d octets: %v, %d", p.From, p.To, len(p.Data), ok, err)
	}
	if err != api.OK {
		return s
	}
	return next
}

func (m *model) hold(t *testing.T, s net.State) {
	if err := net.Check(s); err != api.OK || s.Limit != m.limit || len(s.Packets) != len(m.keys) {
		t.Fatalf("Check = %d, limit %d, %d packets", err, s.Limit, len(s.Packets))
	}
	for i, p := range s.Packets {
		if key(p) != m.keys[i] {
			t.Fatalf("packet %d is not the model's", i)
		}
	}
	for to := -1; to <= 9; to++ {
		var want []int
		for place, node := range m.to {
			if node == to {
				want = append(want, place)
			}
		}
		if got, err := net.For(s, to); err != api.OK || !slices.Equal(got, want) {
			t.Fatalf("For(%d) = %v, %d, want %v", to, got, err, want)
		}
	}
}
