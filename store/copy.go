package store

import (
	"slices"

	"undercroft/disk"
	"undercroft/log"
	"undercroft/segment"
)

// copied is s, which may be, in memory of its own.
func copied(s State) State {
	s.Disk = copiedDisk(s.Disk)
	s.Log = copiedLog(s.Log)
	s.Point.Data = copiedOctets(s.Point.Data)
	return s
}

func copiedDisk(d disk.State) disk.State {
	// No octets need no write: the answer is what was there, in new memory.
	d, _ = disk.PutAll(d, 0, nil)
	return d
}

func copiedLog(l log.State) log.State {
	l.Segs = slices.Clone(l.Segs)
	for slot, seg := range l.Segs {
		l.Segs[slot].Blocks = copiedBlocks(seg.Blocks)
	}
	l.Held = slices.Clone(l.Held)
	l.Open = copiedBlocks(l.Open)
	return l
}

func copiedBlocks(blocks []segment.Block) []segment.Block {
	var list []segment.Block
	for _, b := range blocks {
		b.Data = copiedOctets(b.Data)
		list = append(list, b)
	}
	return list
}

// copiedOctets answers nil for no octets, so that nil and empty lists make the same answer.
func copiedOctets(b []byte) []byte {
	return append([]byte(nil), b...)
}
