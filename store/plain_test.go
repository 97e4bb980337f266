package store_test

import (
	"slices"

	"undercroft/api"
	"undercroft/clean"
	"undercroft/disk"
	"undercroft/log"
	"undercroft/point"
	"undercroft/segment"
	"undercroft/store"
)

// What stands here reads the chapter plainly: a disk is its octets, and what is laid on it is there at once.

// wrong tells what is wrong with a store, in the order of the chapter.
func wrong(s store.State) api.Errno {
	if err := disk.Check(s.Disk); err != api.OK {
		return err
	}
	if err := log.Check(s.Log); err != api.OK {
		return err
	}
	if err := point.Check(s.Point); err != api.OK {
		return err
	}
	if len(s.Disk.Sectors) != ahead+perSlot*len(s.Log.Segs) {
		return api.ErrState
	}
	return api.OK
}

// laid is s with octets on its disk, or ErrFull if its cache has no room for them.
func laid(s store.State, at int, b []byte) (store.State, api.Errno) {
	if len(s.Disk.Cache)+len(b)/sector > mostWrites {
		return store.State{}, api.ErrFull
	}
	all := flat(s.Disk)
	copy(all[at:], b)
	s.Disk = landed(all)
	return s, api.OK
}

func mayStand(b segment.Block) bool {
	return b.Owner >= 1 && b.Owner <= highestOwner && b.Index >= 0 && b.Index <= highestIndex && len(b.Data) <= longest
}

// plainPut reads P18.1.
func plainPut(s store.State, b segment.Block) (store.State, api.Errno) {
	if err := wrong(s); err != api.OK {
		return store.State{}, err
	}
	if !mayStand(b) {
		return store.State{}, api.ErrArg
	}
	if len(s.Log.Open) == mostBlocks {
		var err api.Errno
		if s, err = plainSync(s); err != api.OK {
			return store.State{}, err
		}
	}
	s.Log = opened(s.Log, append(slices.Clone(s.Log.Open), b)...)
	return s, api.OK
}

// plainSync reads P18.1.
func plainSync(s store.State) (store.State, api.Errno) {
	if err := wrong(s); err != api.OK || len(s.Log.Open) == 0 {
		return s, err
	}
	for slot, g := range s.Log.Segs {
		if g.Seq > 0 || s.Log.Held[slot] || s.Log.Next == highest {
			continue
		}
		s.Log = opened(with(s.Log, slot, seg(s.Log.Next, s.Log.Open...)))
		s.Log.Next++
		return laid(s, slotAt(slot), segmentForm(s.Log.Segs[slot]))
	}
	return store.State{}, api.ErrFull
}

// plainCheckpoint reads P18.2.
func plainCheckpoint(s store.State, view, commit int) (store.State, api.Errno) {
	s, err := plainSync(s)
	if err != api.OK {
		return store.State{}, err
	}
	p := point.Point{Epoch: s.Point.Epoch + 1, Seq: s.Log.Next - 1, View: view, Commit: commit, Data: numbers(seqs(s.Log)...)}
	if p.Epoch > highest || view < 0 || view > highest || commit < 0 || commit > highest {
		return store.State{}, api.ErrRange
	}
	if s, err = laid(s, regionAt(p.Epoch), pointForm(p)); err != api.OK {
		return store.State{}, err
	}
	s.Point = p
	s.Log.Held = make([]bool, len(s.Log.Held))
	return s, api.OK
}

// plainClean reads P18.2; what is cleaned, and what that makes of the log, is chapter 16's.
func plainClean(s store.State) (store.State, clean.Record, api.Errno) {
	if err := wrong(s); err != api.OK {
		return store.State{}, clean.Record{}, err
	}
	r, err := clean.Victim(s.Log)
	if err != api.OK {
		return store.State{}, clean.Record{}, err
	}
	first := s.Log.Next
	if s.Log, err = clean.Clean(s.Log, r); err != api.OK {
		return store.State{}, clean.Record{}, err
	}
	for seq := first; seq < s.Log.Next; seq++ {
		slot := slices.Index(seqs(s.Log), seq)
		if s, err = laid(s, slotAt(slot), segmentForm(s.Log.Segs[slot])); err != api.OK {
			return store.State{}, clean.Record{}, err
		}
	}
	s.Log = holding(s.Log, r.Slot)
	return s, r, api.OK
}

// newest is the point that counts, of the octets of both regions.
func newest(all []byte) (point.Point, api.Errno) {
	first, firstErr := point.Decode(all[:pointSize])
	second, secondErr := point.Decode(all[pointSize : 2*pointSize])
	switch {
	case firstErr != api.OK && secondErr != api.OK:
		return point.Point{}, api.ErrCorrupt
	case firstErr != api.OK, secondErr == api.OK && second.Epoch > first.Epoch:
		return second, api.OK
	}
	return first, api.OK
}

// plainMount reads P18.3.
func plainMount(d disk.State, n int) (store.State, api.Errno) {
	if n < 1 || n > mostSlots {
		return store.State{}, api.ErrRange
	}
	if disk.Check(d) != api.OK || len(d.Sectors) != ahead+perSlot*n {
		return store.State{}, api.ErrState
	}
	all := flat(d)
	p, err := newest(all)
	if err != api.OK || len(p.Data) != 5*n {
		return store.State{}, api.ErrCorrupt
	}
	l := of(0, make([]segment.Seg, n)...)
	there := map[int]int{} // of the numbers of segments in slots that are not named, the lowest such slot
	taken := map[int]int{}
	for slot := n - 1; slot >= 0; slot-- {
		g, _ := segment.Open(all[slotAt(slot):][:sealedSize])
		named := 0
		for _, octet := range p.Data[5*slot:][:5] {
			named = named<<8 | int(octet)
		}
		if named == 0 {
			there[g.Seq] = slot
			continue
		}
		taken[named]++
		if g.Seq != named || named > p.Seq || taken[named] > 1 {
			return store.State{}, api.ErrCorrupt
		}
		l.Segs[slot] = g
	}
	l.Next = p.Seq + 1
	for slot, ok := there[l.Next]; ok; slot, ok = there[l.Next] {
		l.Segs[slot], _ = segment.Open(all[slotAt(slot):][:sealedSize])
		l.Next++
	}
	if l.Next > highest {
		return store.State{}, api.ErrCorrupt
	}
	return store.State{Disk: d, Log: l, Point: p}, api.OK
}
