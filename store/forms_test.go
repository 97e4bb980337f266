package store_test

import (
	"bytes"
	"encoding/binary"
	"hash/crc32"
	"math"
	"slices"
	"strconv"
	"strings"

	"undercroft/disk"
	"undercroft/log"
	"undercroft/point"
	"undercroft/segment"
	"undercroft/store"
)

const (
	mostSlots    = 64
	mostBlocks   = 8
	longest      = 32
	highest      = 1 << 40
	highestOwner = 1<<31 - 1
	highestIndex = 255
	sector       = 64
	ahead        = 16 // sectors ahead of the first slot
	perSlot      = 6
	perPoint     = 8
	mostWrites   = 4096
	sealedSize   = perSlot * sector
	pointSize    = perPoint * sector
)

func block(owner, index int, data string) segment.Block {
	return segment.Block{Owner: owner, Index: index, Data: []byte(data)}
}

func seg(seq int, blocks ...segment.Block) segment.Seg {
	return segment.Seg{Seq: seq, Blocks: blocks}
}

// of is a log of these segments, none of its slots held.
func of(next int, segs ...segment.Seg) log.State {
	return log.State{Segs: segs, Held: make([]bool, len(segs)), Next: next}
}

// opened is l with these blocks open.
func opened(l log.State, blocks ...segment.Block) log.State {
	l.Open = blocks
	return l
}

// holding is l with these slots held.
func holding(l log.State, slots ...int) log.State {
	l.Held = slices.Clone(l.Held)
	for _, slot := range slots {
		l.Held[slot] = true
	}
	return l
}

// with is l with another segment at a slot.
func with(l log.State, slot int, g segment.Seg) log.State {
	l.Segs = slices.Clone(l.Segs)
	l.Segs[slot] = g
	return l
}

// many is n blocks of as many kinds, all of one owner.
func many(owner, n int) []segment.Block {
	var l []segment.Block
	for i := range n {
		l = append(l, block(owner, i, strings.Repeat("m", 1+i)))
	}
	return l
}

// whole is a log of n slots that are all in use, with eight live blocks each.
func whole(n int) log.State {
	l := of(n + 1)
	for i := range n {
		l.Segs = append(l.Segs, seg(1+i, many(1+i, mostBlocks)...))
	}
	l.Held = make([]bool, n)
	return l
}

// text is n octets, none of them 0, unlike their neighbours and those of other seeds.
func text(seed, n int) []byte {
	b := make([]byte, n)
	for i := range b {
		b[i] = byte(1 + (seed*37+i*5)%255)
	}
	return b
}

// diskOf is a disk of n sectors, each of octets of its own, with so many writes in its cache.
func diskOf(n, writes int) disk.State {
	var d disk.State
	for i := range n {
		d.Sectors = append(d.Sectors, text(i, sector))
	}
	for i := range writes {
		d.Cache = append(d.Cache, disk.Write{Sector: i * 7 % n, Data: text(100+i, sector)})
	}
	return d
}

// on is a store of that log, on a disk of the right size with so many writes in its cache; what stands there tells neither of the log nor of the point.
func on(l log.State, writes int) store.State {
	return store.State{Disk: diskOf(ahead+perSlot*len(l.Segs), writes), Log: l, Point: point.Point{Epoch: 7, Seq: 3, View: 2, Commit: 1, Data: []byte("old")}}
}

// flat is a disk's octets when all its writes are there.
func flat(d disk.State) []byte {
	all := slices.Concat(d.Sectors...)
	for _, w := range d.Cache {
		copy(all[w.Sector*sector:], w.Data)
	}
	return all
}

// landed is the disk that has these octets, and nothing in its cache.
func landed(all []byte) disk.State {
	var d disk.State
	for b := range slices.Chunk(all, sector) {
		d.Sectors = append(d.Sectors, slices.Clone(b))
	}
	return d
}

// slotAt is where a slot's octets begin on a disk.
func slotAt(slot int) int {
	return (ahead + perSlot*slot) * sector
}

// regionAt is where the octets of a point of that epoch begin.
func regionAt(epoch int) int {
	return epoch % 2 * pointSize
}

// segmentForm is a segment's octets as chapter 13 lays them, by the library's own forms of numbers and sums.
func segmentForm(g segment.Seg) []byte {
	b := binary.BigEndian.AppendUint64([]byte("seg1"), uint64(g.Seq))
	b = append(b, byte(len(g.Blocks)))
	for _, one := range g.Blocks {
		b = binary.BigEndian.AppendUint32(b, uint32(one.Owner))
		b = append(b, byte(one.Index), byte(len(one.Data)))
	}
	for _, one := range g.Blocks {
		b = append(b, one.Data...)
	}
	b = append(b, make([]byte, sealedSize-4-len(b))...)
	return binary.BigEndian.AppendUint32(b, crc32.ChecksumIEEE(b))
}

// pointForm is a point's octets as chapter 17 lays them, by the library's own forms of numbers and sums.
func pointForm(p point.Point) []byte {
	b := []byte{7, 4}
	for _, n := range []int{p.Epoch, p.Seq, p.View, p.Commit} {
		b = binary.AppendVarint(b, int64(n))
	}
	b = append(b, 1)
	b = binary.AppendUvarint(b, uint64(len(p.Data)))
	b = append(b, p.Data...)
	b = binary.LittleEndian.AppendUint32(b, crc32.ChecksumIEEE(b))
	b = append(binary.BigEndian.AppendUint16(nil, uint16(len(b))), b...)
	return append(b, make([]byte, pointSize-len(b))...)
}

// numbers is what a point's data tells of slots with these numbers: five octets of each.
func numbers(seqs ...int) []byte {
	var b []byte
	for _, seq := range seqs {
		b = append(b, binary.BigEndian.AppendUint64(nil, uint64(seq))[3:]...)
	}
	return b
}

// seqs is the number of each slot's segment.
func seqs(l log.State) []int {
	var list []int
	for _, g := range l.Segs {
		list = append(list, g.Seq)
	}
	return list
}

func sameBlocks(a, b []segment.Block) bool {
	return slices.EqualFunc(a, b, func(x, y segment.Block) bool {
		return x.Owner == y.Owner && x.Index == y.Index && bytes.Equal(x.Data, y.Data)
	})
}

func sameLog(a, b log.State) bool {
	alike := func(x, y segment.Seg) bool { return x.Seq == y.Seq && sameBlocks(x.Blocks, y.Blocks) }
	return slices.EqualFunc(a.Segs, b.Segs, alike) && slices.Equal(a.Held, b.Held) && sameBlocks(a.Open, b.Open) && a.Next == b.Next
}

func sameDisk(a, b disk.State) bool {
	alike := func(x, y disk.Write) bool { return x.Sector == y.Sector && bytes.Equal(x.Data, y.Data) }
	return slices.EqualFunc(a.Sectors, b.Sectors, bytes.Equal) && slices.EqualFunc(a.Cache, b.Cache, alike)
}

func samePoint(a, b point.Point) bool {
	return a.Epoch == b.Epoch && a.Seq == b.Seq && a.View == b.View && a.Commit == b.Commit && bytes.Equal(a.Data, b.Data)
}

// same tells whether two stores are alike; nil and empty lists are.
func same(a, b store.State) bool {
	return sameDisk(a.Disk, b.Disk) && sameLog(a.Log, b.Log) && samePoint(a.Point, b.Point)
}

// none tells whether a store is zero.
func none(s store.State) bool {
	return same(s, store.State{})
}

// brief is a store without its disk's octets, for what a test tells.
func brief(s store.State) string {
	var b strings.Builder
	tell := func(name string, n int) { b.WriteString(name + " " + strconv.Itoa(n) + " ") }
	tell("sectors", len(s.Disk.Sectors))
	tell("writes", len(s.Disk.Cache))
	tell("epoch", s.Point.Epoch)
	tell("point's seq", s.Point.Seq)
	tell("view", s.Point.View)
	tell("commit", s.Point.Commit)
	tell("data", len(s.Point.Data))
	tell("next", s.Log.Next)
	tell("open", len(s.Log.Open))
	for slot, g := range s.Log.Segs {
		tell("seq", g.Seq)
		tell("blocks", len(g.Blocks))
		if slot < len(s.Log.Held) && s.Log.Held[slot] {
			b.WriteString("held ")
		}
	}
	return b.String()
}

// edges holds numbers that are out of the range of all numbers of a point.
func edges() []int {
	return []int{math.MinInt, math.MinInt + 1, -highest, -1, highest + 1, 1 << 41, 1 << 62, math.MaxInt}
}
