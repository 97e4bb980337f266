package image_test

import (
	"bytes"
	"encoding/binary"
	"encoding/hex"
	"hash/crc32"
	"math"
	"math/rand"
	"reflect"
	"slices"
	"strconv"
	"strings"
	"testing"

	"undercroft/api"
	"undercroft/dir"
	"undercroft/file"
	"undercroft/fs"
	"undercroft/image"
)

// The faces keep the signatures of the chapter.
var (
	_ func(fs.State) ([][]byte, api.Errno)           = image.Encode
	_ func([][]byte) (fs.State, api.Errno)           = image.Decode
	_ func(fs.State, fs.State) ([][]byte, api.Errno) = image.Diff
	_ func(fs.State, [][]byte) (fs.State, api.Errno) = image.Patch
)

const (
	lastNext    = 2147483647
	largest     = 2432
	mostNodes   = 128
	mostEntries = 63
	mostLinks   = 16
	mostPayload = 4096
	perBlock    = 33
)

// record lays a record in octets as chapter 5 says, by the library's own forms of numbers and sums.
func record(kind byte, nums []int, texts ...string) []byte {
	out := []byte{kind, byte(len(nums))}
	for _, n := range nums {
		out = binary.AppendVarint(out, int64(n))
	}
	out = append(out, byte(len(texts)))
	for _, text := range texts {
		out = binary.AppendUvarint(out, uint64(len(text)))
		out = append(out, text...)
	}
	return sealed(out)
}

// sealed is b and its sum, the lowest octet first.
func sealed(b []byte) []byte {
	return binary.LittleEndian.AppendUint32(slices.Clone(b), crc32.ChecksumIEEE(b))
}

// entryText is entries as chapter 8 lays them.
func entryText(entries ...dir.Entry) string {
	var out []byte
	for _, e := range entries {
		out = append(out, byte(len(e.Name)))
		out = append(out, e.Name...)
		out = binary.BigEndian.AppendUint32(out, uint32(e.Ino))
	}
	return string(out)
}

// blockText is blocks as the chapter lays them.
func blockText(blocks ...file.Block) string {
	var out strings.Builder
	for _, b := range blocks {
		out.WriteByte(byte(b.Index))
		out.Write(b.Data)
	}
	return out.String()
}

// head is the first record.
func head(nums ...int) []byte {
	return record(0, nums)
}

// nodeRecord is the record of a node as the chapter lays it.
func nodeRecord(n fs.Node) []byte {
	isDir := map[bool]int{true: 1}[n.Dir]
	return record(1, []int{n.Ino, isDir, n.Links, n.File.Size}, entryText(n.Entries...), blockText(n.File.Blocks...))
}

// gone is the record of a node that is gone.
func gone(ino int) []byte {
	return record(2, []int{ino})
}

// plainImage is a state's records as the chapter lays them.
func plainImage(s fs.State) [][]byte {
	l := [][]byte{head(s.Next, len(s.Nodes))}
	for _, n := range s.Nodes {
		l = append(l, nodeRecord(n))
	}
	return l
}

// plain is s with nil for each empty list, in memory of its own.
func plain(s fs.State) fs.State {
	out := fs.State{Next: s.Next}
	for _, n := range s.Nodes {
		n.Entries = append([]dir.Entry(nil), n.Entries...)
		blocks := n.File.Blocks
		n.File.Blocks = nil
		for _, b := range blocks {
			n.File.Blocks = append(n.File.Blocks, file.Block{Index: b.Index, Data: append([]byte(nil), b.Data...)})
		}
		out.Nodes = append(out.Nodes, n)
	}
	return out
}

// same tells whether two states are one, nil and empty lists being one.
func same(a, b fs.State) bool {
	return reflect.DeepEqual(plain(a), plain(b))
}

func sameRecords(a, b [][]byte) bool {
	return slices.EqualFunc(a, b, bytes.Equal)
}

func isNoState(s fs.State) bool {
	return s.Next == 0 && len(s.Nodes) == 0
}

// must is a state that fs tells without an error.
func must(s fs.State, err api.Errno) fs.State {
	if err != api.OK {
		panic(err)
	}
	return s
}

// mustWrite is s with a text in a file.
func mustWrite(s fs.State, p string, off int, text string) fs.State {
	next, _, err := fs.Write(s, p, off, []byte(text))
	return must(next, err)
}

// text is n octets, none of them 0, unlike their neighbours.
func text(n int) string {
	var out strings.Builder
	for i := range n {
		out.WriteByte(byte(1 + i*7%255))
	}
	return out.String()
}

// base has /d with f of 100 octets (blocks 0 and 3), which /g names, too; /e, an empty directory; /h, an empty file; and a number that no node has any more.
func base() fs.State {
	s := must(fs.Mkdir(fs.New(), "/d"))
	s = must(fs.Create(s, "/d/f"))
	s = mustWrite(s, "/d/f", 97, "end")
	s = mustWrite(s, "/d/f", 0, "beginning")
	s = must(fs.Link(s, "/d/f", "/g"))
	s = must(fs.Create(s, "/k"))
	s = must(fs.Mkdir(s, "/e"))
	s = must(fs.Unlink(s, "/k"))
	return must(fs.Create(s, "/h"))
}

// with is base, changed.
func with(f func(s *fs.State)) fs.State {
	s := base()
	f(&s)
	return s
}

// filled is s with n files in a directory, of names at their longest.
func filled(s fs.State, in string, n int) fs.State {
	for i := range n {
		s = must(fs.Create(s, in+"/"+strings.Repeat("n", 14)+strconv.Itoa(10+i)))
	}
	return s
}

// crowd has as many nodes as may be, some of them as large as may be.
func crowd() fs.State {
	s := must(fs.Mkdir(fs.New(), "/x"))
	s = filled(must(fs.Mkdir(s, "/y")), "/x", mostEntries)
	s = filled(s, "/y", mostNodes-3-mostEntries)
	for i := range 20 {
		s = mustWrite(s, "/x/"+strings.Repeat("n", 14)+strconv.Itoa(10+i), i, text(largest-i))
	}
	return s
}

// deep has a file at the greatest depth, and one with as many links as may be.
func deep() fs.State {
	s, at := fs.New(), ""
	for range 7 {
		at += "/a"
		s = must(fs.Mkdir(s, at))
	}
	s = must(fs.Create(s, at+"/f"))
	for i := range mostLinks - 1 {
		s = must(fs.Link(s, at+"/f", "/f"+strconv.Itoa(i)))
	}
	return s
}

// last has a node of the highest number.
func last() fs.State {
	return fs.State{Next: lastNext, Nodes: []fs.Node{
		{Ino: 1, Dir: true, Entries: []dir.Entry{{Name: "f", Ino: lastNext - 1}}},
		{Ino: lastNext - 1, Links: 1},
	}}
}

// rightStates holds states that may be, at the edges.
func rightStates() map[string]fs.State {
	return map[string]fs.State{
		"new":          fs.New(),
		"base":         base(),
		"crowd":        crowd(),
		"deep":         deep(),
		"last":         last(),
		"highest Next": with(func(s *fs.State) { s.Next = lastNext }),
		"largest":      mustWrite(base(), "/h", 0, text(largest)),
		"last block":   mustWrite(base(), "/h", largest-1, "x"),
		"zeros":        must(fs.Truncate(base(), "/h", largest)),
		"all octets":   mustWrite(must(fs.Create(base(), "/\xff\x01\x80 \n")), "/\xff\x01\x80 \n", 3, "\x00\xff\x80\x00"),
	}
}

// wrongStates holds states that may not be.
func wrongStates() map[string]fs.State {
	return map[string]fs.State{
		"none":     {},
		"no nodes": {Next: 2},
		"a file":   {Next: 2, Nodes: []fs.Node{{Ino: 1}}},
		"great":    {Next: 2, Nodes: make([]fs.Node, 1<<16)},
		"Next":     with(func(s *fs.State) { s.Next = 3 }),
		"far Next": with(func(s *fs.State) { s.Next = lastNext + 1 }),
		"Links":    with(func(s *fs.State) { s.Nodes[2].Links = 7 }),
		"Entries":  with(func(s *fs.State) { s.Nodes[0].Entries[0].Name = "/" }),
		"File":     with(func(s *fs.State) { s.Nodes[2].File.Size = -1 }),
		"Blocks":   with(func(s *fs.State) { s.Nodes[2].File.Blocks[0].Index = 300 }),
		"Data":     with(func(s *fs.State) { s.Nodes[2].File.Blocks[0].Data = nil }),
		"order":    with(func(s *fs.State) { s.Nodes[1], s.Nodes[2] = s.Nodes[2], s.Nodes[1] }),
		"lost":     with(func(s *fs.State) { s.Nodes[0].Entries = s.Nodes[0].Entries[1:] }),
	}
}

// P12.1: a state's records, octet by octet; P12.3: Decode of them is the state.
func TestForms(t *testing.T) {
	for name, s := range rightStates() {
		l, err := image.Encode(s)
		if err != api.OK || !sameRecords(l, plainImage(s)) {
			t.Errorf("%s: Encode = %x, %d, want %x", name, l, err, plainImage(s))
		}
		if got, err := image.Decode(plainImage(s)); err != api.OK || !same(got, s) {
			t.Errorf("%s: Decode = %+v, %d, want %+v", name, got, err, s)
		}
	}
}

// ahead is records written out, without their sums.
func ahead(t *testing.T, l [][]byte, err api.Errno) []string {
	t.Helper()
	var out []string
	for _, b := range l {
		if err != api.OK || len(b) < 4 {
			t.Fatalf("%x, %d", l, err)
		}
		out = append(out, hex.EncodeToString(b[:len(b)-4]))
	}
	return out
}

// P12.1 and example 1: forms written out.
func TestWrittenForms(t *testing.T) {
	l, err := image.Encode(fs.New())
	if got := ahead(t, l, err); !slices.Equal(got, []string{"0002" + "0402" + "00", "0104" + "02020000" + "02" + "0000"}) {
		t.Error("Encode of New:", got)
	}
	s := mustWrite(must(fs.Create(fs.New(), "/ab")), "/ab", 64, "xy")
	l, err = image.Encode(s)
	want := []string{
		"0002" + "0604" + "00",
		"0104" + "02020000" + "02" + "07" + "026162" + "00000002" + "00",
		"0104" + "0400028401" + "02" + "00" + "21" + "02" + "7879" + strings.Repeat("00", 30),
	}
	if got := ahead(t, l, err); !slices.Equal(got, want) {
		t.Errorf("Encode: %v, want %v", got, want)
	}
}

// P12.1: Encode asks whether the state may be.
func TestEncodeRefuses(t *testing.T) {
	for name, s := range wrongStates() {
		if l, err := image.Encode(s); err != api.ErrState || len(l) != 0 {
			t.Errorf("%s: Encode = %x, %d", name, l, err)
		}
	}
}

// wrongRecord holds octets, and the error that they have first.
type wrongRecord struct {
	b    []byte
	want api.Errno
}

// unread holds octets of which wire.Decode tells an error.
func unread() map[string]wrongRecord {
	whole := nodeRecord(base().Nodes[0])
	spoiled := slices.Clone(whole)
	spoiled[0] ^= 64
	return map[string]wrongRecord{
		"nothing":   {nil, api.ErrShort},
		"no octets": {[]byte{}, api.ErrShort},
		"three":     {[]byte{1, 2, 3}, api.ErrShort},
		"none":      {sealed(nil), api.ErrShort},
		"spoiled":   {spoiled, api.ErrCorrupt},
		"cut":       {whole[:len(whole)-1], api.ErrCorrupt},
		"too short": {sealed([]byte{99, 1}), api.ErrShort},
		"a tail":    {sealed([]byte{99, 0, 0, 0}), api.ErrTail},
		"count":     {sealed([]byte{99, 65}), api.ErrCount},
		"range":     {sealed([]byte{99, 1, 128, 0}), api.ErrRange},
		"long":      {record(99, nil, text(mostPayload+1)), api.ErrLong},
	}
}

// wrongNodes holds records in the place of one of Kind 1, and the error that each has first.
func wrongNodes() map[string]wrongRecord {
	entry := entryText(dir.Entry{Name: "a", Ino: 2})
	all := map[string]wrongRecord{
		"kind 0":                {record(0, []int{7, 0, 1, 0}, "", ""), api.ErrKind},
		"kind 2":                {record(2, []int{7, 0, 1, 0}, "", ""), api.ErrKind},
		"kind 255":              {record(255, []int{7, 0, 1, 0}, "", ""), api.ErrKind},
		"kind 0, no more":       {record(0, nil), api.ErrKind},
		"one that is gone":      {gone(7), api.ErrKind},
		"no numbers":            {record(1, nil, "", ""), api.ErrCount},
		"3 numbers":             {record(1, []int{7, 0, 1}, "", ""), api.ErrCount},
		"5 numbers":             {record(1, []int{7, 0, 1, 0, 0}, "", ""), api.ErrCount},
		"no texts":              {record(1, []int{7, 0, 1, 0}), api.ErrCount},
		"1 text":                {record(1, []int{7, 0, 1, 0}, ""), api.ErrCount},
		"3 texts":               {record(1, []int{7, 0, 1, 0}, "", "", ""), api.ErrCount},
		"nothing in it":         {record(1, nil), api.ErrCount},
		"64 of each":            {record(1, make([]int, 64), make([]string, 64)...), api.ErrCount},
		"2 is no kind of node":  {record(1, []int{7, 2, 1, 0}, "", ""), api.ErrArg},
		"-1 is none":            {record(1, []int{7, -1, 1, 0}, "", ""), api.ErrArg},
		"the highest is none":   {record(1, []int{7, math.MaxInt, 1, 0}, "", ""), api.ErrArg},
		"the least is none":     {record(1, []int{7, math.MinInt, 1, 0}, "", ""), api.ErrArg},
		"2^32 is none":          {record(1, []int{7, 1 << 32, 1, 0}, "", ""), api.ErrArg},
		"2^32 and 1 is none":    {record(1, []int{7, 1<<32 + 1, 1, 0}, "", ""), api.ErrArg},
		"entries end":           {record(1, []int{7, 1, 1, 0}, entry[:5], ""), api.ErrShort},
		"entries end in a name": {record(1, []int{7, 1, 1, 0}, entry+"\x10abc", ""), api.ErrShort},
		"entries of no name":    {record(1, []int{7, 1, 1, 0}, entryText(dir.Entry{Ino: 2}), ""), api.ErrState},
		"entries twice":         {record(1, []int{7, 1, 1, 0}, entry+entry, ""), api.ErrState},
		"an entry of 0":         {record(1, []int{7, 1, 1, 0}, entryText(dir.Entry{Name: "a"}), ""), api.ErrState},
		"an entry of 2^31":      {record(1, []int{7, 1, 1, 0}, entryText(dir.Entry{Name: "a", Ino: lastNext + 1}), ""), api.ErrState},
		"1 octet of a block":    {record(1, []int{7, 0, 1, 32}, "", "a"), api.ErrShort},
		"32 octets of a block":  {record(1, []int{7, 0, 1, 32}, "", text(32)), api.ErrShort},
		"34 octets":             {record(1, []int{7, 0, 1, 32}, "", text(34)), api.ErrShort},
		"64 octets":             {record(1, []int{7, 0, 1, 64}, "", text(64)), api.ErrShort},
		"4096 octets":           {record(1, []int{7, 0, 1, 64}, "", text(mostPayload)), api.ErrShort},
		"kind ahead of count":   {record(2, nil), api.ErrKind},
		"kind ahead of arg":     {record(0, []int{7, 2, 1, 0}, "", ""), api.ErrKind},
		"count ahead of arg":    {record(1, []int{7, 2, 1, 0}, ""), api.ErrCount},
		"count ahead of texts":  {record(1, []int{7, 0, 1}, "a", "a"), api.ErrCount},
		"arg ahead of entries":  {record(1, []int{7, 2, 1, 0}, "a", ""), api.ErrArg},
		"arg ahead of state":    {record(1, []int{7, 2, 1, 0}, entry+entry, ""), api.ErrArg},
		"arg ahead of blocks":   {record(1, []int{7, 2, 1, 0}, "", "a"), api.ErrArg},
		"entries ahead":         {record(1, []int{7, 1, 1, 0}, entry+entry, "a"), api.ErrState},
		"blocks ahead of all":   {record(1, []int{-7, 1, -1, -5}, entry, "a"), api.ErrShort},
	}
	for name, c := range unread() {
		all[name] = c
	}
	return all
}

// P12.1: what is wrong with a node's record is told, wherever it stands, ahead of what is wrong behind it and of the state.
func TestDecodeRefusesNodes(t *testing.T) {
	whole := plainImage(base())
	for name, c := range wrongNodes() {
		for at := 1; at < len(whole); at++ {
			l := slices.Clone(whole)
			l[at] = c.b
			holdDecode(t, name, l, c.want)
			for other, d := range wrongNodes() {
				if at+1 < len(l) {
					l[at+1] = d.b
					holdDecode(t, name+", then "+other, l, c.want)
				}
			}
		}
		// The head alone goes ahead, and no state is made ahead of all records.
		holdDecode(t, name, [][]byte{head(-1, 1), c.b}, c.want)
		holdDecode(t, name, [][]byte{head(2, 2), whole[2], c.b}, c.want)
		holdDecode(t, name, [][]byte{head(2, 2), c.b}, api.ErrCount)
	}
}

func holdDecode(t *testing.T, name string, l [][]byte, want api.Errno) {
	t.Helper()
	if s, err := image.Decode(l); err != want || !isNoState(s) {
		t.Errorf("%s: Decode = %+v, %d, want %d", name, s, err, want)
	}
}

// wrongHeads holds records in the place of a head with those numbers, and the error that each has first.
func wrongHeads(nums ...int) map[string]wrongRecord {
	all := map[string]wrongRecord{
		"kind 1":              {record(1, nums), api.ErrKind},
		"kind 2":              {record(2, nums), api.ErrKind},
		"kind 255":            {record(255, nums), api.ErrKind},
		"a node":              {nodeRecord(base().Nodes[0]), api.ErrKind},
		"no numbers":          {record(0, nil), api.ErrCount},
		"one less":            {record(0, nums[:len(nums)-1]), api.ErrCount},
		"one more":            {record(0, append(slices.Clip(nums), 0)), api.ErrCount},
		"64 numbers":          {record(0, make([]int, 64)), api.ErrCount},
		"a text":              {record(0, nums, ""), api.ErrCount},
		"64 texts":            {record(0, nums, make([]string, 64)...), api.ErrCount},
		"kind ahead of count": {record(1, nil), api.ErrKind},
	}
	for _, n := range []int{1, -1, 2, 1 << 32, -1 << 32, 1 << 8, math.MaxInt - 10, math.MinInt} {
		counted := slices.Clone(nums)
		counted[1] += n
		all["first count by "+strconv.Itoa(n)] = wrongRecord{record(0, counted), api.ErrCount}
	}
	for name, c := range unread() {
		all[name] = c
	}
	return all
}

// P12.1: what is wrong with the first record goes ahead of all behind it.
func TestDecodeRefusesHead(t *testing.T) {
	whole := plainImage(base())
	for name, c := range wrongHeads(base().Next, len(base().Nodes)) {
		l := slices.Clone(whole)
		l[0] = c.b
		holdDecode(t, name, l, c.want)
		for at := 1; at < len(l); at++ {
			l[at] = nil
		}
		holdDecode(t, name+", all else spoiled", l, c.want)
		if c.want != api.ErrCount {
			holdDecode(t, name+" alone", l[:1], c.want)
		}
	}
	holdDecode(t, "nil", nil, api.ErrShort)
	holdDecode(t, "empty", [][]byte{}, api.ErrShort)
	holdDecode(t, "head alone", whole[:1], api.ErrCount)
	holdDecode(t, "one missing", whole[:len(whole)-1], api.ErrCount)
	holdDecode(t, "one too many", append(slices.Clip(whole), whole[1]), api.ErrCount)
	holdDecode(t, "a spoiled one too many", append(slices.Clip(whole), nil), api.ErrCount)
	holdDecode(t, "no head", whole[1:], api.ErrKind)
	holdDecode(t, "no nodes", [][]byte{head(2, 0)}, api.ErrState)
}

// P12.1: records of nodes, each right, that make a state that may not be.
func TestDecodeRefusesStates(t *testing.T) {
	for name, s := range wrongStates() {
		// A block of no data, and one of Index 300, are no records of theirs.
		if name != "Data" && name != "Blocks" {
			holdDecode(t, name, plainImage(s), api.ErrState)
		}
	}
	root := fs.Node{Ino: 1, Dir: true, Entries: []dir.Entry{{Name: "f", Ino: 2}}}
	of := func(n fs.Node) [][]byte { return plainImage(fs.State{Next: 3, Nodes: []fs.Node{root, n}}) }
	block := func(index, size int) file.Block {
		return file.Block{Index: index, Data: append([]byte(text(size)), make([]byte, 32-size)...)}
	}
	for name, n := range map[string]fs.Node{
		"a far number":        {Ino: 1 << 40, Links: 1},
		"a number below 0":    {Ino: -2, Links: 1},
		"the root's number":   {Ino: 1, Dir: true},
		"far links":           {Ino: 2, Links: 1 << 33},
		"no links":            {Ino: 2},
		"a directory's size":  {Ino: 2, Dir: true, Links: 1, File: file.File{Size: 1}},
		"a directory's block": {Ino: 2, Dir: true, Links: 1, File: file.File{Size: 32, Blocks: []file.Block{block(0, 32)}}},
		"a file's entry":      {Ino: 2, Links: 1, Entries: []dir.Entry{{Name: "f", Ino: 2}}},
		"too large":           {Ino: 2, Links: 1, File: file.File{Size: largest + 1}},
		"size below 0":        {Ino: 2, Links: 1, File: file.File{Size: -1}},
		"a block behind":      {Ino: 2, Links: 1, File: file.File{Size: 32, Blocks: []file.Block{block(1, 32)}}},
		"octets behind":       {Ino: 2, Links: 1, File: file.File{Size: 31, Blocks: []file.Block{block(0, 32)}}},
		"a block of zeros":    {Ino: 2, Links: 1, File: file.File{Size: 32, Blocks: []file.Block{block(0, 0)}}},
		"block 76":            {Ino: 2, Links: 1, File: file.File{Size: largest, Blocks: []file.Block{block(76, 32)}}},
		"block 255":           {Ino: 2, Links: 1, File: file.File{Size: largest, Blocks: []file.Block{block(255, 32)}}},
		"one block twice":     {Ino: 2, Links: 1, File: file.File{Size: 64, Blocks: []file.Block{block(0, 32), block(0, 32)}}},
		"blocks that fall":    {Ino: 2, Links: 1, File: file.File{Size: 64, Blocks: []file.Block{block(1, 32), block(0, 32)}}},
		"124 blocks":          {Ino: 2, Links: 1, File: file.File{Size: largest, Blocks: slices.Repeat([]file.Block{block(75, 32)}, mostPayload/perBlock)}},
	} {
		holdDecode(t, name, of(n), api.ErrState)
	}
	right := fs.Node{Ino: 2, Links: 1, File: file.File{Size: 33, Blocks: []file.Block{block(0, 1), block(1, 1)}}}
	if s, err := image.Decode(of(right)); err != api.OK || len(s.Nodes) != 2 {
		t.Errorf("Decode: %+v, %d", s, err)
	}
	two := append(of(right), nodeRecord(right))
	two[0] = head(3, 3)
	holdDecode(t, "one node twice", two, api.ErrState)
	for _, next := range []int{-1, 0, 1, 2, lastNext + 1, 1 << 40, math.MaxInt, math.MinInt} {
		l := of(right)
		l[0] = head(next, 2)
		holdDecode(t, "Next "+strconv.Itoa(next), l, api.ErrState)
	}
}

// chanceState is s behind what fs does by chance, on few paths, so that they meet.
func chanceState(chance *rand.Rand, s fs.State) fs.State {
	paths := strings.Fields("/a /b /c /a/b /a/b/c /b/a /b/a/c")
	path := func() string { return paths[chance.Intn(len(paths))] }
	changed := func(next fs.State, err api.Errno) fs.State {
		if err != api.OK {
			return s
		}
		return next
	}
	switch chance.Intn(9) {
	case 0:
		return changed(fs.Create(s, path()))
	case 1, 2:
		return changed(fs.Mkdir(s, path()))
	case 3:
		return changed(fs.Unlink(s, path()))
	case 4:
		return changed(fs.Rmdir(s, path()))
	case 5:
		return changed(fs.Rename(s, path(), path()))
	case 6:
		return changed(fs.Link(s, path(), path()))
	case 7:
		return changed(fs.Truncate(s, path(), chance.Intn(largest)))
	}
	next, _, err := fs.Write(s, path(), chance.Intn(200), []byte(text(chance.Intn(100))))
	return changed(next, err)
}

// P12.1, P12.3: states of scripts come back from their records.
func TestScripts(t *testing.T) {
	chance := rand.New(rand.NewSource(1))
	for range 20 {
		s := fs.New()
		for range 100 {
			s = chanceState(chance, s)
			l, err := image.Encode(s)
			if err != api.OK || !sameRecords(l, plainImage(s)) {
				t.Fatalf("Encode of %+v: %x, %d", s, l, err)
			}
			if got, err := image.Decode(l); err != api.OK || !same(got, s) {
				t.Fatalf("%+v comes back as %+v, %d", s, got, err)
			}
		}
	}
}
