package store

import (
	"cmp"
	"slices"

	"undercroft/api"
	"undercroft/disk"
	"undercroft/log"
	"undercroft/octets"
	"undercroft/point"
	"undercroft/segment"
)

// mount is a store that is read from its disk. What is written there is of each slot the segment that it holds, whether it counts or not: one without a number is none.
type mount struct {
	State
	written []segment.Seg
}

// Mount reads the store of n slots that d holds.
func Mount(d disk.State, n int) (State, api.Errno) {
	l, err := log.New(n)
	ahead := [...]api.Errno{err, disk.Check(d), checkSize(d, n)}
	if err := cmp.Or(ahead[:]...); err != api.OK {
		return State{}, err
	}
	p, err := point.Load(d)
	if err != api.OK {
		return State{}, err
	}
	m := mount{State: State{Disk: copiedDisk(d), Log: l, Point: p}, written: segmentsOn(d, n)}
	if err := m.read(); err != nil {
		return State{}, numberOf(err)
	}
	return m.State, api.OK
}

// segmentsOn reads what n slots of a disk hold.
func segmentsOn(d disk.State, n int) []segment.Seg {
	list := make([]segment.Seg, n)
	for slot := range list {
		// A disk of the right size has all slots; what Open refuses has no number.
		b, _ := disk.GetAll(d, firstSector(slot), slotSectors)
		list[slot], _ = segment.Open(b)
	}
	return list
}

func (m *mount) read() error {
	if err := m.takeNamed(); err != nil {
		return err
	}
	return m.rollForward()
}

// takeNamed takes the segments that the point names; all of them have to be there.
func (m *mount) takeNamed() error {
	if len(m.Point.Data) != len(m.written)*seqSize {
		return refusal{api.ErrCorrupt}
	}
	seqs := seqsIn(m.Point.Data)
	for slot, seq := range seqs {
		if seq == 0 {
			continue
		}
		if seq > m.Point.Seq || slices.Contains(seqs[:slot], seq) || m.written[slot].Seq != seq {
			return refusal{api.ErrCorrupt}
		}
		m.Log.Segs[slot] = m.written[slot]
	}
	return nil
}

// seqsIn reads what seqsOf lays.
func seqsIn(data []byte) []int {
	var seqs []int
	for b := range slices.Chunk(data, seqSize) {
		// So few octets hold no number that Get refuses.
		seq, _ := octets.Get(b)
		seqs = append(seqs, int(seq))
	}
	return seqs
}

// rollForward takes the segments that were written behind the point, up to the first that is not there.
func (m *mount) rollForward() error {
	next := m.Point.Seq + 1
	// No slot that the point names has a number above the point's.
	for slot := slotWith(m.written, next); slot >= 0; slot = slotWith(m.written, next) {
		m.Log.Segs[slot] = m.written[slot]
		next++
	}
	if next > api.MaxNumber {
		return refusal{api.ErrCorrupt}
	}
	m.Log.Next = next
	return nil
}
