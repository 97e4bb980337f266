package client_test

import (
	"bytes"
	"reflect"
	"runtime"
	"slices"
	"testing"
	"unsafe"

	"undercroft/api"
	"undercroft/client"
)

// held is all that was handed in or answered, and where it lies. Nothing of it is given back while it is looked at: memory that nobody holds comes back in later answers.
type held struct {
	all   []any
	spans [][2]uintptr
}

// add takes note of where a list lies, with the room behind it.
func add[T any](h *held, list []T) {
	from := uintptr(unsafe.Pointer(unsafe.SliceData(list)))
	h.all = append(h.all, list)
	h.spans = append(h.spans, [2]uintptr{from, from + uintptr(cap(list))*unsafe.Sizeof(*new(T))})
}

func (h *held) addTable(l []client.Last) {
	add(h, l)
	for _, last := range l {
		add(h, last.Reply)
	}
}

// apart tells whether no two of what is held overlap.
func (h *held) apart() bool {
	list := slices.DeleteFunc(slices.Clone(h.spans), func(s [2]uintptr) bool { return s[0] == s[1] })
	slices.SortFunc(list, func(a, b [2]uintptr) int { return slices.Compare(a[:], b[:]) })
	for i := range list {
		if i > 0 && list[i][0] < list[i-1][1] {
			return false
		}
	}
	runtime.KeepAlive(h.all)
	return true
}

// behind is l with room behind it, in which x stands.
func behind[T any](l []T, x T) []T {
	return append(slices.Clip(slices.Clone(l)), x, x, x)[:len(l)]
}

// roomy is l with room behind each of its lists, in which something stands.
func roomy(l []client.Last) []client.Last {
	l = slices.Clone(l)
	for i, last := range l {
		l[i].Reply = behind(last.Reply, 99)
	}
	return behind(l, client.Last{Session: 77, Number: 7, Reply: []byte("room")})
}

// allOf is l with all that stands in the room behind its lists.
func allOf(l []client.Last) []client.Last {
	l = slices.Clone(l[:cap(l)])
	for i, last := range l {
		l[i].Reply = slices.Clone(last.Reply[:cap(last.Reply)])
	}
	return l
}

func wipe(l []client.Last) {
	for _, last := range l {
		clear(last.Reply)
	}
	clear(l)
}

// answer is what calls answer for one table and one request.
type answer struct {
	reply []byte
	next  []client.Last
	what  [3]int
}

func made(l []client.Last, r client.Last) answer {
	what, reply, err := client.Ask(l, r.Session, r.Number)
	next, doneErr := client.Done(l, r.Session, r.Number, r.Reply)
	return answer{reply, next, [3]int{what, int(err), int(doneErr)}}
}

// eachCall calls look for tables, some of which may not be, and requests that are new, the last, elder ones and refused.
func eachCall(look func(name string, l []client.Last, r client.Last)) {
	tables := wrongTables()
	delete(tables, "5000")
	for name, l := range rightTables() {
		tables[name] = l
	}
	for name, l := range tables {
		names := [][2]int{{1, 1}, {700, 3}, {0, 1}, {1, 0}}
		for i, last := range l {
			if i < 3 || i == len(l)-1 {
				names = append(names, [2]int{last.Session, last.Number - 1}, [2]int{last.Session, last.Number}, [2]int{last.Session, last.Number + 1}, [2]int{last.Session + 1, 5})
			}
		}
		for _, n := range names {
			for _, size := range []int{0, 40, longestReply + 1} {
				look(name, l, client.Last{n[0], n[1], text(3, size)})
			}
		}
	}
}

// P20.4: tables and replies that are handed in are not changed, nor the room behind them.
func TestArgumentsStay(t *testing.T) {
	eachCall(func(name string, l []client.Last, r client.Last) {
		l, r.Reply = roomy(l), behind(r.Reply, 99)
		before, reply := allOf(l), slices.Clone(r.Reply[:cap(r.Reply)])
		made(l, r)
		client.Check(l)
		if !reflect.DeepEqual(allOf(l), before) || !bytes.Equal(r.Reply[:cap(r.Reply)], reply) {
			t.Fatalf("%s: what was handed in has changed", name)
		}
	})
	requests := wrongRequests()
	for _, r := range rightRequests() {
		requests = append(requests, wrongRequest{r: r})
	}
	for _, c := range requests {
		op, b := behind(c.r.Op, 99), behind(form(c.r), 99)
		before, octets := slices.Clone(op[:cap(op)]), slices.Clone(b[:cap(b)])
		client.Encode(client.Request{c.r.Session, c.r.Number, op})
		client.Decode(b)
		if !bytes.Equal(op[:cap(op)], before) || !bytes.Equal(b[:cap(b)], octets) {
			t.Fatal("an op or octets have changed")
		}
	}
}

// P20.4: answers share no memory with arguments, with each other, nor within one.
func TestAnswersApart(t *testing.T) {
	replies, tables := 0, 0
	eachCall(func(name string, l []client.Last, r client.Last) {
		h := &held{}
		l, r.Reply = roomy(l), behind(r.Reply, 99)
		h.addTable(l)
		add(h, r.Reply)
		for range 2 {
			got := made(l, r)
			add(h, got.reply)
			h.addTable(got.next)
			replies, tables = replies+len(got.reply), tables+len(got.next)
		}
		if !h.apart() {
			t.Fatalf("%s: an answer shares memory", name)
		}
	})
	if replies < 1000 || tables < 1000 {
		t.Errorf("%d octets, %d sessions", replies, tables)
	}
	h := &held{}
	for _, r := range rightRequests() {
		op, b := behind(r.Op, 99), behind(form(r), 99)
		add(h, op)
		add(h, b)
		for range 2 {
			laid, _ := client.Encode(client.Request{r.Session, r.Number, op})
			add(h, laid)
			got, _ := client.Decode(b)
			add(h, got.Op)
		}
	}
	if !h.apart() {
		t.Fatal("an answer shares memory")
	}
}

// P20.4: replies that share memory, with each other and with a new one, do not make answers that do.
func TestSharedReplies(t *testing.T) {
	b := text(5, 40)
	l := []client.Last{{1, 5, b}, {2, 5, b[3:20]}, {3, 5, b}}
	for _, r := range []client.Last{{1, 6, b}, {2, 5, b}, {3, 7, b[1:]}, {9, 1, b}} {
		h := &held{}
		add(h, b)
		add(h, l)
		got := made(l, r)
		add(h, got.reply)
		h.addTable(got.next)
		if !h.apart() {
			t.Errorf("%v: an answer shares memory", r)
		}
	}
}

// P20.4 and P3: writing over what was handed in, or over one answer, changes no other one; the same call answers the same again.
func TestAnswersStay(t *testing.T) {
	eachCall(func(name string, l []client.Last, r client.Last) {
		want := made(roomy(l), r)
		l, r.Reply = roomy(l), slices.Clone(r.Reply)
		first, second := made(l, r), made(l, r)
		wipe(l)
		clear(r.Reply)
		wipe(first.next)
		clear(first.reply)
		if !reflect.DeepEqual(second, want) {
			t.Fatalf("%s: an answer has changed", name)
		}
	})
	for name, r := range rightRequests() {
		op, b := slices.Clone(r.Op), form(r)
		firstLaid, _ := client.Encode(client.Request{r.Session, r.Number, op})
		secondLaid, _ := client.Encode(client.Request{r.Session, r.Number, op})
		first, _ := client.Decode(b)
		second, _ := client.Decode(b)
		clear(op)
		clear(b)
		clear(firstLaid)
		clear(first.Op)
		if !bytes.Equal(secondLaid, form(r)) || !same(second, r) {
			t.Errorf("%s: an answer has changed", name)
		}
	}
}

// P1: nil and empty lists are one, and what is answered of them is alike.
func TestNilAndEmpty(t *testing.T) {
	bare, empty := client.Last{1, 5, nil}, client.Last{1, 5, []byte{}}
	for _, r := range []client.Last{{1, 5, nil}, {1, 6, nil}, {2, 1, nil}} {
		first := made([]client.Last{bare}, r)
		r.Reply = []byte{}
		if second := made([]client.Last{empty}, r); !reflect.DeepEqual(first, second) {
			t.Errorf("%v: calls tell them apart: %v, %v", r, first, second)
		}
	}
	if !reflect.DeepEqual(made(nil, bare), made([]client.Last{}, empty)) || client.Check(nil) != api.OK || client.Check([]client.Last{}) != api.OK {
		t.Error("calls tell no table and an empty one apart")
	}
	first, err := client.Encode(client.Request{1, 5, nil})
	second, emptyErr := client.Encode(client.Request{1, 5, []byte{}})
	if err != api.OK || emptyErr != api.OK || !bytes.Equal(first, second) {
		t.Error("Encode tells them apart")
	}
}
