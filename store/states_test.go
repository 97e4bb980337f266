package store_test

import (
	"math"
	"slices"
	"strconv"
	"strings"

	"undercroft/disk"
	"undercroft/log"
	"undercroft/point"
	"undercroft/segment"
	"undercroft/store"
)

// rightLogs holds logs that may be, those at the edges among them.
func rightLogs() map[string]log.State {
	x, gone, y := block(1, 0, "x"), block(1, 0, ""), block(2, 0, "y")
	eight := many(9, mostBlocks)
	all := map[string]log.State{
		"one free":                         of(1, seg(0)),
		"one free, one open":               opened(of(1, seg(0)), x),
		"one free, eight open":             opened(of(1, seg(0)), eight...),
		"one in use":                       of(2, seg(1, x)),
		"one in use, one open":             opened(of(2, seg(1, x)), y),
		"one in use, eight open":           opened(of(2, seg(1, x)), eight...),
		"one in use, its block is elder":   opened(of(2, seg(1, x)), x),
		"one held":                         opened(holding(of(1, seg(0)), 0), x),
		"one held, eight open":             opened(holding(of(1, seg(0)), 0), eight...),
		"one held, one free":               opened(holding(of(1, seg(0), seg(0)), 0), x, y, gone),
		"held and in use":                  opened(holding(of(3, seg(2, x), seg(0), seg(1, y)), 0, 2), y),
		"all held, nothing open":           holding(of(3, seg(2, x), seg(0), seg(1, y)), 0, 1, 2),
		"empty lists":                      {Segs: []segment.Seg{{Blocks: []segment.Block{}}, seg(1, segment.Block{Owner: 1})}, Held: make([]bool, 2), Open: []segment.Block{}, Next: 2},
		"the highest Next, one open":       opened(of(highest, seg(highest-1, x), seg(0), seg(3, y)), x),
		"the highest Next, none open":      of(highest, seg(highest-1, x), seg(0), seg(3, y)),
		"the highest Next, none live":      of(highest, seg(highest-1, x), seg(2, x)),
		"the highest Next, eight open":     opened(of(highest, seg(highest-1, x), seg(0), seg(0)), eight...),
		"the highest but one, one open":    opened(of(highest-1, seg(highest-2, x), seg(0), seg(0)), y),
		"the highest but one, eight open":  opened(of(highest-1, seg(highest-2, x), seg(0), seg(0)), eight...),
		"none live":                        of(9, seg(8, x), seg(3, block(1, 0, "old"))),
		"none live, eight open":            opened(of(9, seg(8, x)), slices.Repeat([]segment.Block{x}, mostBlocks)...),
		"gone, and nothing else":           of(4, seg(3, gone)),
		"gone, hides elsewhere":            of(5, seg(4, gone, y), seg(3, x), seg(0)),
		"live all over":                    of(4, seg(3, eight...), seg(2, many(2, mostBlocks)...), seg(0)),
		"live all over, one open":          opened(of(4, seg(3, eight...), seg(0), seg(0)), y),
		"four live, five open, one free":   opened(of(9, seg(4, many(1, 4)...), seg(0)), many(9, 5)...),
		"four live, five open, two free":   opened(of(9, seg(4, many(1, 4)...), seg(0), seg(0)), many(9, 5)...),
		"three live, five open, one free":  opened(of(9, seg(4, many(1, 3)...), seg(0)), many(9, 5)...),
		"one live, eight open, two free":   opened(of(9, seg(0), seg(4, x), seg(0)), eight...),
		"one live, eight open, one free":   opened(of(9, seg(0), seg(4, x)), eight...),
		"two sealed, the later one ahead":  opened(holding(of(9, seg(0), seg(4, many(1, 7)...), seg(8, y), seg(0), seg(0)), 3), many(9, 7)...),
		"numbers that fall":                of(9, seg(8, x), seg(0), seg(3, block(1, 0, "old")), seg(1, gone)),
		"the highest owner and index":      opened(of(2, seg(1, block(highestOwner, highestIndex, strings.Repeat("z", longest))), seg(0)), block(highestOwner, 0, "o"), block(1, highestIndex, "i")),
		"a number of five octets":          opened(of(0x0102030406, seg(0x0102030405, x), seg(0), seg(0x00ff00ff00, y)), x),
		"all of many free":                 of(1, make([]segment.Seg, mostSlots)...),
		"all of many free, eight open":     opened(of(1, make([]segment.Seg, mostSlots)...), eight...),
		"all of many live all over":        whole(mostSlots),
		"all of many but one":              opened(with(whole(mostSlots), 40, segment.Seg{}), x),
		"all of many but the last":         opened(with(whole(mostSlots), 63, segment.Seg{}), eight...),
		"the last of many partly":          opened(with(whole(mostSlots), 63, seg(64, many(64, 5)...)), x),
		"the last partly, one free":        opened(with(with(whole(mostSlots), 63, seg(64, many(64, 5)...)), 20, segment.Seg{}), x),
		"the last partly, one free, held":  opened(holding(with(with(whole(mostSlots), 63, seg(64, many(64, 5)...)), 20, segment.Seg{}), 20), x),
		"the last partly, two to be taken": opened(with(with(with(whole(mostSlots), 63, seg(64, many(64, 5)...)), 20, segment.Seg{}), 9, segment.Seg{}), eight...),
	}
	return all
}

// rightStates holds stores that may be: all logs, on disks with room in the cache and without, with points at the edges.
func rightStates() map[string]store.State {
	all := map[string]store.State{}
	for name, l := range rightLogs() {
		s := on(l, 3)
		all[name] = s
		s.Point = point.Point{}
		all[name+", no point"] = s
		if len(l.Segs) == mostSlots {
			continue
		}
		s.Point.Epoch = highest - 1
		all[name+", the highest epoch but one"] = s
		s.Point = point.Point{Epoch: highest, Seq: highest, View: highest, Commit: highest, Data: text(1, 400)}
		all[name+", the highest point"] = s
		for _, writes := range []int{0, mostWrites - 14, mostWrites - 12, mostWrites - 11, mostWrites - 8, mostWrites - 7, mostWrites - 6, mostWrites - 5, mostWrites} {
			all[name+", "+strconv.Itoa(writes)+" writes"] = on(l, writes)
		}
		full := on(l, mostWrites)
		full.Point.Epoch = highest
		all[name+", no room, the highest epoch"] = full
	}
	return all
}

// sized is s with so many sectors more, or fewer.
func sized(s store.State, more int) store.State {
	s.Disk = diskOf(len(s.Disk.Sectors)+more, 0)
	return s
}

// wrongParts is what makes a store one that may not be, each by a cause of its own.
type wrongParts struct {
	disks  map[string]disk.State
	logs   map[string]log.State
	points map[string]point.Point
}

func parts() wrongParts {
	x := block(1, 0, "x")
	return wrongParts{
		disks: map[string]disk.State{
			"no sectors":         {},
			"nil sectors":        {Sectors: make([][]byte, ahead+2*perSlot)},
			"a short sector":     {Sectors: append(diskOf(ahead+2*perSlot-1, 0).Sectors, make([]byte, sector-1))},
			"too many sectors":   diskOf(2049, 0),
			"too many writes":    diskOf(ahead+2*perSlot, mostWrites+1),
			"a write beyond":     {Sectors: diskOf(ahead+2*perSlot, 0).Sectors, Cache: []disk.Write{{Sector: ahead + 2*perSlot, Data: text(1, sector)}}},
			"a write of nothing": {Sectors: diskOf(ahead+2*perSlot, 0).Sectors, Cache: []disk.Write{{Sector: 1}}},
		},
		logs: map[string]log.State{
			"zero":            {},
			"no slots":        of(1),
			"65 slots":        of(1, make([]segment.Seg, mostSlots+1)...),
			"Next 0":          of(0, seg(0), seg(0)),
			"Next too high":   of(highest+1, seg(0), seg(0)),
			"two alike":       of(9, seg(4, x), seg(4, x)),
			"a Seq above":     of(4, seg(5, x), seg(0)),
			"no Held":         {Segs: make([]segment.Seg, 2), Next: 1},
			"nine open":       opened(of(4, seg(1, x), seg(0)), many(1, mostBlocks+1)...),
			"a wrong open":    opened(of(4, seg(1, x), seg(0)), block(0, 0, "x")),
			"a million slots": of(1, make([]segment.Seg, 1_000_000)...),
			"a lowest Next":   of(math.MinInt, seg(0), seg(0)),
		},
		points: map[string]point.Point{
			"an epoch below 0": {Epoch: -1},
			"an epoch above":   {Epoch: highest + 1},
			"the last epoch":   {Epoch: math.MaxInt},
			"a seq below 0":    {Seq: math.MinInt},
			"a view above":     {View: highest + 1},
			"a commit above":   {Commit: math.MaxInt},
			"long data":        {Data: make([]byte, 401)},
			"both":             {Commit: -1, Data: make([]byte, 401)},
		},
	}
}

// wrongStates holds stores that may not be: all wrong parts, alone and together, and disks of a wrong size.
func wrongStates() map[string]store.State {
	right := on(opened(of(2, seg(1, block(1, 0, "x")), seg(0)), block(2, 0, "y")), 2)
	all := map[string]store.State{"zero": {}}
	for _, more := range []int{-27, -13, -12, -6, -1, 1, 6, 64} {
		all["sectors more: "+strconv.Itoa(more)] = sized(right, more)
	}
	wrong := parts()
	for name, d := range wrong.disks {
		s := right
		s.Disk = d
		all["disk: "+name] = s
	}
	for name, l := range wrong.logs {
		s := right
		s.Log = l
		all["log: "+name] = s
	}
	for name, p := range wrong.points {
		s := right
		s.Point = p
		all["point: "+name] = s
		all["point and size: "+name] = sized(s, 6)
		s.Log = wrong.logs["two alike"]
		all["log and point: "+name] = s
		s.Log = right.Log
		s.Disk = wrong.disks["nil sectors"]
		all["disk and point: "+name] = s
	}
	return all
}
