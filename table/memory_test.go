package table_test

import (
	"runtime"
	"slices"
	"testing"
	"unsafe"

	"undercroft/api"
	"undercroft/table"
)

// held is all that was handed in or answered, and where it lies. Nothing of it is given back while it is looked at: memory that nobody holds comes back in later answers.
type held struct {
	all   [][]table.Slot
	spans [][2]uintptr
}

// add takes note of where a list lies, with the room behind it.
func (h *held) add(l []table.Slot) {
	from := uintptr(unsafe.Pointer(unsafe.SliceData(l)))
	h.all = append(h.all, l)
	h.spans = append(h.spans, [2]uintptr{from, from + uintptr(cap(l))*unsafe.Sizeof(table.Slot{})})
}

// apart tells whether no two of what is held overlap.
func (h *held) apart() bool {
	list := slices.DeleteFunc(slices.Clone(h.spans), func(s [2]uintptr) bool { return s[0] == s[1] })
	slices.SortFunc(list, func(a, b [2]uintptr) int { return slices.Compare(a[:], b[:]) })
	for i := range list {
		if i > 0 && list[i][0] < list[i-1][1] {
			return false
		}
	}
	runtime.KeepAlive(h.all)
	return true
}

// roomy is l with room behind it, in which something stands.
func roomy(l []table.Slot) []table.Slot {
	x := table.Slot{Seq: 4999, Live: 7}
	return append(slices.Clip(slices.Clone(l)), x, x, x)[:len(l)]
}

// answers is what all calls that answer tables make of l: some of them are refused.
func answers(l []table.Slot) [][]table.Slot {
	var all [][]table.Slot
	got, _, _ := table.Alloc(l, 5000, 3)
	all = append(all, got)
	got, _, _ = table.Alloc(l, 1, 0)
	all = append(all, got)
	for slot := range len(l) + 1 {
		for _, n := range []int{0, 1, mostLive} {
			got, _ := table.Kill(l, slot, n)
			all = append(all, got)
		}
		got, _ := table.Free(l, slot)
		all = append(all, got)
	}
	return all
}

// P14.3: what is handed in is not changed, nor the room behind it.
func TestArgumentsStay(t *testing.T) {
	for _, list := range []map[string][]table.Slot{rightTables(), wrongTables()} {
		for name, l := range list {
			if len(l) > 2*mostSlots {
				continue
			}
			l = roomy(l)
			before := slices.Clone(l[:cap(l)])
			table.Check(l)
			table.Room(l)
			answers(l)
			if !slices.Equal(l[:cap(l)], before) {
				t.Errorf("%s: the table has changed", name)
			}
		}
	}
}

// P14.3: answers share no memory with arguments, nor with each other, also where a call changes nothing.
func TestAnswersApart(t *testing.T) {
	for name, l := range rightTables() {
		h := &held{}
		l = roomy(l)
		h.add(l)
		for range 2 {
			fresh, _ := table.New(len(l))
			h.add(fresh)
			for _, got := range answers(l) {
				h.add(got)
			}
		}
		if !h.apart() {
			t.Errorf("%s: an answer shares memory", name)
		}
	}
}

// P14.3 and P3: writing over what was handed in, or over one answer, changes no other one; the same call answers the same again.
func TestAnswersStay(t *testing.T) {
	for name, l := range rightTables() {
		first, second := answers(l), answers(l)
		want := make([][]table.Slot, len(first))
		for i := range first {
			want[i] = slices.Clone(first[i])
		}
		clear(l)
		for i := range first {
			clear(first[i])
		}
		for i := range second {
			if !slices.Equal(second[i], want[i]) {
				t.Errorf("%s: answer %d is %v, not %v", name, i, second[i], want[i])
			}
		}
	}
	first, _ := table.New(4)
	first[0] = table.Slot{Seq: 1, Live: 1}
	if second, err := table.New(4); err != api.OK || second[0] != (table.Slot{}) {
		t.Error("New keeps what it answered")
	}
}

// P1: nil and empty tables are one.
func TestNilAndEmpty(t *testing.T) {
	for _, l := range [][]table.Slot{nil, {}} {
		_, _, allocErr := table.Alloc(l, 1, 1)
		_, killErr := table.Kill(l, 0, 0)
		_, freeErr := table.Free(l, 0)
		_, _, roomErr := table.Room(l)
		for _, err := range []api.Errno{table.Check(l), allocErr, killErr, freeErr, roomErr} {
			if err != api.ErrState {
				t.Errorf("%d of no slots", err)
			}
		}
	}
}
