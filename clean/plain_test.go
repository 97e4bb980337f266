package clean_test

import (
	"math"
	"slices"

	"undercroft/api"
	"undercroft/clean"
	"undercroft/log"
	"undercroft/segment"
)

// live is the live blocks of a slot, by the words of chapter 15: of each block, how many versions stand behind it, and how many in all.
func live(s log.State, slot int) []segment.Block {
	var list []segment.Block
	for i, b := range s.Segs[slot].Blocks {
		behind, count := 0, 0
		tally := func(seq, place int, c segment.Block) {
			if c.Owner != b.Owner || c.Index != b.Index {
				return
			}
			count++
			if seq > s.Segs[slot].Seq || seq == s.Segs[slot].Seq && place > i {
				behind++
			}
		}
		for _, g := range s.Segs {
			for place, c := range g.Blocks {
				tally(g.Seq, place, c)
			}
		}
		for place, c := range s.Open {
			tally(math.MaxInt, place, c)
		}
		if behind == 0 && (len(b.Data) > 0 || count > 1) {
			list = append(list, b)
		}
	}
	return list
}

// isFree tells whether there is no segment at a place, or not even a slot.
func isFree(s log.State, slot int) bool {
	return slot < 0 || slot >= len(s.Segs) || len(s.Segs[slot].Blocks) == 0
}

// victim reads P16.1 plainly.
func victim(s log.State) (clean.Record, api.Errno) {
	best, most := clean.Record{}, -1
	for slot := len(s.Segs) - 1; slot >= 0; slot-- {
		if isFree(s, slot) {
			continue
		}
		seq, n := s.Segs[slot].Seq, len(live(s, slot))
		if score := 64 * (8 - n) * (s.Next - seq) / (8 + n); n < 8 && score >= most {
			best, most = clean.Record{Slot: slot, Seq: seq}, score
		}
	}
	if most < 0 {
		return clean.Record{}, api.ErrNone
	}
	return best, api.OK
}

// sealed is s with Open as a segment, or false if there is no room for it.
func sealed(s log.State) (log.State, bool) {
	for slot := range s.Segs {
		if isFree(s, slot) && !s.Held[slot] && s.Next < highest {
			s = opened(with(s, slot, seg(s.Next, s.Open...)))
			s.Next++
			return s, true
		}
	}
	return log.State{}, false
}

// cleaned reads P16.2 plainly.
func cleaned(s log.State, r clean.Record) (log.State, api.Errno) {
	if isFree(s, r.Slot) {
		return log.State{}, api.ErrNone
	}
	if s.Segs[r.Slot].Seq != r.Seq {
		return log.State{}, api.ErrOrder
	}
	room := true
	left := live(s, r.Slot)
	for room && len(left) > 0 {
		if len(s.Open) == 8 {
			s, room = sealed(s)
			continue
		}
		n := min(len(left), 8-len(s.Open))
		s = opened(s, slices.Concat(s.Open, left[:n])...)
		left = left[n:]
		if len(left) == 0 {
			s, room = sealed(s)
		}
	}
	if !room {
		return log.State{}, api.ErrFull
	}
	return with(s, r.Slot, segment.Seg{}), api.OK
}

// room reads P16.2 plainly.
func room(s log.State) int {
	n := 0
	for slot := range s.Segs {
		if isFree(s, slot) && !s.Held[slot] {
			n++
		}
	}
	return n
}
