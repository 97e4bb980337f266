package ops_test

import (
	"bytes"
	"encoding/binary"
	"encoding/hex"
	"hash/crc32"
	"math"
	"math/rand"
	"slices"
	"strings"
	"testing"

	"undercroft/api"
	"undercroft/fs"
	"undercroft/ops"
	"undercroft/wire"
)

// The faces keep the signatures of the chapter.
var (
	_ func(api.Op) api.Errno                                      = ops.Check
	_ func(api.Op) ([]byte, api.Errno)                            = ops.Encode
	_ func([]byte) (api.Op, api.Errno)                            = ops.Decode
	_ func(api.Reply) ([]byte, api.Errno)                         = ops.EncodeReply
	_ func([]byte) (api.Reply, api.Errno)                         = ops.DecodeReply
	_ func(fs.State, api.Op) (fs.State, api.Reply, api.Errno)     = ops.Apply
	_ func(fs.State, []api.Op) (fs.State, []api.Reply, api.Errno) = ops.Run
)

const (
	longestName = 255
	longestData = 4096
	highestErr  = 65536
	highestN    = 2147483647
)

// record lays a record in octets as chapter 5 says, by the library's own forms of numbers and sums.
func record(kind byte, nums []int, texts ...string) []byte {
	out := []byte{kind, byte(len(nums))}
	for _, n := range nums {
		out = binary.AppendVarint(out, int64(n))
	}
	out = append(out, byte(len(texts)))
	for _, text := range texts {
		out = binary.AppendUvarint(out, uint64(len(text)))
		out = append(out, text...)
	}
	return sealed(out)
}

// sealed is b and its sum, the lowest octet first.
func sealed(b []byte) []byte {
	return binary.LittleEndian.AppendUint32(slices.Clone(b), crc32.ChecksumIEEE(b))
}

// plainOp is an op as the chapter lays it.
func plainOp(o api.Op) []byte {
	return record(byte(o.Kind), []int{o.Off, o.N}, o.Path, o.To, string(o.Data))
}

// plainReply is a reply as the chapter lays it.
func plainReply(r api.Reply) []byte {
	return record(0, []int{int(r.Err), r.N}, append([]string{string(r.Data)}, r.Names...)...)
}

// text is n octets, unlike their neighbours, all octets among them.
func text(n int) string {
	var out strings.Builder
	for i := range n {
		out.WriteByte(byte(i * 7))
	}
	return out.String()
}

// names is n names of that many octets.
func names(n, size int) []string {
	var all []string
	for i := range n {
		all = append(all, text(size + i)[i:])
	}
	return all
}

// sameOp and sameReply take nil and empty lists as one.
func sameOp(a, b api.Op) bool {
	return a.Kind == b.Kind && a.Path == b.Path && a.To == b.To && a.Off == b.Off && a.N == b.N && bytes.Equal(a.Data, b.Data)
}

func sameReply(a, b api.Reply) bool {
	return a.Err == b.Err && a.N == b.N && bytes.Equal(a.Data, b.Data) && slices.Equal(a.Names, b.Names)
}

func isNoOp(o api.Op) bool {
	return o.Kind == 0 && o.Path == "" && o.To == "" && o.Off == 0 && o.N == 0 && len(o.Data) == 0
}

func isNoReply(r api.Reply) bool {
	return sameReply(r, api.Reply{})
}

// rightOps holds ops that may be, those at the edges among them.
func rightOps() map[string]api.Op {
	all := map[string]api.Op{
		"full":           {Kind: 5, Path: "/a", To: "/b", Off: 7, N: 9, Data: []byte("data")},
		"far numbers":    {Kind: 9, Path: "/a", Off: math.MinInt, N: math.MaxInt},
		"numbers back":   {Kind: 8, Off: math.MaxInt, N: math.MinInt},
		"below 0":        {Kind: 9, Off: -1, N: -64},
		"longest path":   {Kind: 1, Path: text(longestName)},
		"longest to":     {Kind: 1, To: text(longestName)},
		"longest data":   {Kind: 1, Data: []byte(text(longestData))},
		"all longest":    {Kind: 12, Path: text(longestName), To: text(longestName), Data: []byte(text(longestData))},
		"no path":        {Kind: 1, Path: "no path\x00\xff"},
		"127 octets":     {Kind: 7, Path: text(127), To: text(128), Data: []byte{0}},
		"empty data":     {Kind: 7, Data: []byte{}},
		"data of a room": {Kind: 7, Data: append(make([]byte, 0, 9), 1, 2)},
	}
	for kind := 1; kind <= 12; kind++ {
		all["kind "+string(rune('a'+kind))] = api.Op{Kind: kind}
	}
	return all
}

// wrongOp is an op that may not be, and the error that it has first.
type wrongOp struct {
	o    api.Op
	want api.Errno
}

// wrongOps holds ops that may not be, by what is wrong with them.
func wrongOps() map[string]wrongOp {
	long, data := text(longestName+1), []byte(text(longestData+1))
	return map[string]wrongOp{
		"none":                {api.Op{}, api.ErrKind},
		"kind 13":             {api.Op{Kind: 13, Path: "/a"}, api.ErrKind},
		"kind -1":             {api.Op{Kind: -1}, api.ErrKind},
		"kind 255":            {api.Op{Kind: 255}, api.ErrKind},
		"kind 257":            {api.Op{Kind: 257}, api.ErrKind},
		"kind by 2^32":        {api.Op{Kind: 1<<32 + 1}, api.ErrKind},
		"least kind":          {api.Op{Kind: math.MinInt}, api.ErrKind},
		"highest kind":        {api.Op{Kind: math.MaxInt}, api.ErrKind},
		"long path":           {api.Op{Kind: 1, Path: long}, api.ErrLong},
		"long to":             {api.Op{Kind: 12, To: long}, api.ErrLong},
		"long data":           {api.Op{Kind: 2, Data: data}, api.ErrLong},
		"very long path":      {api.Op{Kind: 2, Path: text(100000)}, api.ErrLong},
		"kind ahead of path":  {api.Op{Kind: 13, Path: long}, api.ErrKind},
		"kind ahead of to":    {api.Op{Kind: 0, To: long}, api.ErrKind},
		"kind ahead of data":  {api.Op{Kind: 0, Data: data}, api.ErrKind},
		"all of it long":      {api.Op{Kind: 7, Path: long, To: long, Data: data}, api.ErrLong},
		"long ahead of range": {api.Op{Kind: 7, Path: long, Off: -1, N: -1}, api.ErrLong},
	}
}

// P11.1: Check, and Encode by its error.
func TestCheck(t *testing.T) {
	for name, o := range rightOps() {
		if err := ops.Check(o); err != api.OK {
			t.Errorf("%s: Check = %d", name, err)
		}
	}
	for name, c := range wrongOps() {
		if err := ops.Check(c.o); err != c.want {
			t.Errorf("%s: Check = %d, want %d", name, err, c.want)
		}
		if b, err := ops.Encode(c.o); err != c.want || len(b) != 0 {
			t.Errorf("%s: Encode = %d octets, %d, want %d", name, len(b), err, c.want)
		}
	}
}

// P11.1 and P11.3: an op's octets, and what Decode reads in them.
func TestOpForms(t *testing.T) {
	for name, o := range rightOps() {
		b, err := ops.Encode(o)
		if err != api.OK || !bytes.Equal(b, plainOp(o)) {
			t.Errorf("%s: Encode = %x, %d, want %x", name, b, err, plainOp(o))
		}
		if got, err := ops.Decode(plainOp(o)); err != api.OK || !sameOp(got, o) {
			t.Errorf("%s: Decode = %+v, %d", name, got, err)
		}
	}
}

// P11.1: forms written out, without their sums.
func TestWrittenForms(t *testing.T) {
	ahead := func(b []byte, err api.Errno) string {
		if err != api.OK || len(b) < 4 {
			t.Fatalf("%x, %d", b, err)
		}
		return hex.EncodeToString(b[:len(b)-4])
	}
	o := api.Op{Kind: 9, Path: "/a", To: "b", Off: 64, N: -1, Data: []byte{255}}
	if got := ahead(ops.Encode(o)); got != "0902"+"8001"+"01"+"03"+"022f61"+"0162"+"01ff" {
		t.Error("Encode:", got)
	}
	if got := ahead(ops.Encode(api.Op{Kind: 12})); got != "0c02"+"0000"+"03"+"000000" {
		t.Error("Encode of a sync:", got)
	}
	r := api.Reply{Err: api.ErrNoEnt, N: 3, Data: []byte("x"), Names: []string{"", "ab"}}
	if got := ahead(ops.EncodeReply(r)); got != "0002"+"ca01"+"06"+"03"+"0178"+"00"+"026162" {
		t.Error("EncodeReply:", got)
	}
	if got := ahead(ops.EncodeReply(api.Reply{})); got != "0002"+"0000"+"01"+"00" {
		t.Error("EncodeReply of none:", got)
	}
}

// wrongOctets holds octets, and the errors that they have first.
type wrongOctets struct {
	b    []byte
	want api.Errno
}

// unread holds octets of which wire.Decode tells an error, so that no one reads on.
func unread() map[string]wrongOctets {
	whole := plainOp(api.Op{Kind: 1, Path: "/a"})
	spoiled := slices.Clone(whole)
	spoiled[0] ^= 64
	return map[string]wrongOctets{
		"nothing":   {nil, api.ErrShort},
		"three":     {[]byte{1, 2, 3}, api.ErrShort},
		"no octets": {sealed(nil), api.ErrShort},
		"spoiled":   {spoiled, api.ErrCorrupt},
		"cut":       {whole[:len(whole)-1], api.ErrCorrupt},
		"too short": {sealed([]byte{99, 1}), api.ErrShort},
		"a tail":    {sealed([]byte{99, 0, 0, 0}), api.ErrTail},
		"count":     {sealed([]byte{99, 65}), api.ErrCount},
		"range":     {sealed([]byte{99, 1, 128, 0}), api.ErrRange},
		"long":      {record(99, nil, text(longestData+1)), api.ErrLong},
	}
}

// P11.1: Decode's errors, in their order.
func TestDecodeRefuses(t *testing.T) {
	long := text(longestName + 1)
	all := map[string]wrongOctets{
		"no numbers":          {record(1, nil, "/a", "", ""), api.ErrCount},
		"1 number":            {record(1, []int{1}, "/a", "", ""), api.ErrCount},
		"3 numbers":           {record(1, []int{1, 2, 3}, "/a", "", ""), api.ErrCount},
		"no texts":            {record(1, []int{1, 2}), api.ErrCount},
		"2 texts":             {record(1, []int{1, 2}, "/a", ""), api.ErrCount},
		"4 texts":             {record(1, []int{1, 2}, "/a", "", "", ""), api.ErrCount},
		"nothing in it":       {record(0, nil), api.ErrCount},
		"64 of each":          {record(1, make([]int, 64), make([]string, 64)...), api.ErrCount},
		"3 numbers, 2 texts":  {record(1, make([]int, 3), make([]string, 2)...), api.ErrCount},
		"kind 0":              {record(0, []int{1, 2}, "/a", "", ""), api.ErrKind},
		"kind 13":             {record(13, []int{1, 2}, "/a", "", ""), api.ErrKind},
		"kind 255":            {record(255, []int{1, 2}, "/a", "", ""), api.ErrKind},
		"long path":           {record(1, []int{1, 2}, long, "", ""), api.ErrLong},
		"long to":             {record(1, []int{1, 2}, "", long, ""), api.ErrLong},
		"count ahead of kind": {record(13, []int{1}, "", "", ""), api.ErrCount},
		"count ahead of long": {record(1, []int{1, 2}, long, ""), api.ErrCount},
		"kind ahead of long":  {record(13, []int{1, 2}, long, "", ""), api.ErrKind},
		"a reply":             {plainReply(api.Reply{Names: names(2, 3)}), api.ErrKind},
	}
	for _, m := range []map[string]wrongOctets{all, unread()} {
		for name, c := range m {
			if o, err := ops.Decode(c.b); err != c.want || !isNoOp(o) {
				t.Errorf("%s: Decode = %+v, %d, want %d", name, o, err, c.want)
			}
		}
	}
}

// rightReplies holds replies that may be and have octets, those at the edges among them.
func rightReplies() map[string]api.Reply {
	return map[string]api.Reply{
		"none":          {},
		"empty lists":   {Data: []byte{}, Names: []string{}},
		"an error":      {Err: api.ErrNoEnt},
		"no known one":  {Err: 12345},
		"highest error": {Err: highestErr},
		"1":             {N: 1},
		"highest":       {N: highestN},
		"both highest":  {Err: highestErr, N: highestN},
		"data":          {N: 3, Data: []byte{0, 1, 255}},
		"longest data":  {Data: []byte(text(longestData))},
		"names":         {N: 2, Names: []string{"a", "bb"}},
		"an empty name": {Names: []string{""}},
		"empty names":   {Names: make([]string, 63)},
		"63 names":      {N: 63, Names: names(63, 16)},
		"longest names": {Err: 1, N: 2, Data: []byte(text(longestData)), Names: names(63, longestName)},
	}
}

// wrongReply is a reply that may not be, or has too many names for a record, and the error that it has first.
type wrongReply struct {
	r    api.Reply
	want api.Errno
}

// wrongReplies holds replies that are refused, by what is wrong with them.
func wrongReplies() map[string]wrongReply {
	data := []byte(text(longestData + 1))
	first, last := names(64, 3), names(64, 3)
	first[0], last[63] = text(longestName+1), text(longestName+1)
	return map[string]wrongReply{
		"error -1":              {api.Reply{Err: -1}, api.ErrRange},
		"error above":           {api.Reply{Err: highestErr + 1}, api.ErrRange},
		"least error":           {api.Reply{Err: math.MinInt}, api.ErrRange},
		"highest of errors":     {api.Reply{Err: math.MaxInt}, api.ErrRange},
		"N -1":                  {api.Reply{N: -1}, api.ErrRange},
		"N above":               {api.Reply{N: highestN + 1}, api.ErrRange},
		"least N":               {api.Reply{N: math.MinInt}, api.ErrRange},
		"highest N":             {api.Reply{N: math.MaxInt}, api.ErrRange},
		"N by 2^32":             {api.Reply{N: 1 << 32}, api.ErrRange},
		"long data":             {api.Reply{Data: data}, api.ErrLong},
		"64 names":              {api.Reply{Names: names(64, 3)}, api.ErrCount},
		"65 names":              {api.Reply{Names: names(65, 3)}, api.ErrCount},
		"300 empty names":       {api.Reply{Names: make([]string, 300)}, api.ErrCount},
		"a long name":           {api.Reply{Names: []string{text(longestName + 1)}}, api.ErrLong},
		"a long name behind":    {api.Reply{Names: []string{"a", "b", text(longestName + 1)}}, api.ErrLong},
		"64, the first long":    {api.Reply{Names: first}, api.ErrLong},
		"64, the last long":     {api.Reply{Names: last}, api.ErrLong},
		"65, long ones":         {api.Reply{Names: append(last, last...)}, api.ErrCount},
		"error ahead of data":   {api.Reply{Err: -1, Data: data}, api.ErrRange},
		"N ahead of data":       {api.Reply{N: -1, Data: data}, api.ErrRange},
		"N ahead of names":      {api.Reply{N: -1, Names: names(65, 1)}, api.ErrRange},
		"error ahead of names":  {api.Reply{Err: -1, Names: first}, api.ErrRange},
		"data ahead of 65":      {api.Reply{Data: data, Names: names(65, 1)}, api.ErrLong},
		"data ahead of 64":      {api.Reply{Data: data, Names: names(64, 1)}, api.ErrLong},
		"data and a long name":  {api.Reply{Data: data, Names: first}, api.ErrLong},
		"all of it":             {api.Reply{Err: -1, N: -1, Data: data, Names: append(first, first...)}, api.ErrRange},
		"longest data, 64 long": {api.Reply{Data: data[1:], Names: names(64, longestName)}, api.ErrCount},
	}
}

// P11.1: EncodeReply's errors, in their order.
func TestEncodeReplyRefuses(t *testing.T) {
	for name, c := range wrongReplies() {
		if b, err := ops.EncodeReply(c.r); err != c.want || len(b) != 0 {
			t.Errorf("%s: EncodeReply = %d octets, %d, want %d", name, len(b), err, c.want)
		}
	}
}

// P11.1 and P11.3: a reply's octets, and what DecodeReply reads in them.
func TestReplyForms(t *testing.T) {
	for name, r := range rightReplies() {
		b, err := ops.EncodeReply(r)
		if err != api.OK || !bytes.Equal(b, plainReply(r)) {
			t.Errorf("%s: EncodeReply = %x, %d, want %x", name, b, err, plainReply(r))
		}
		if got, err := ops.DecodeReply(plainReply(r)); err != api.OK || !sameReply(got, r) {
			t.Errorf("%s: DecodeReply = %+v, %d", name, got, err)
		}
	}
}

// P11.1: DecodeReply's errors, in their order.
func TestDecodeReplyRefuses(t *testing.T) {
	long := text(longestName + 1)
	all := map[string]wrongOctets{
		"kind 1":               {record(1, []int{1, 2}, ""), api.ErrKind},
		"kind 12":              {record(12, []int{1, 2}, "", "", ""), api.ErrKind},
		"kind 255":             {record(255, []int{1, 2}, ""), api.ErrKind},
		"an op":                {plainOp(api.Op{Kind: 3}), api.ErrKind},
		"no numbers":           {record(0, nil, ""), api.ErrCount},
		"1 number":             {record(0, []int{1}, ""), api.ErrCount},
		"3 numbers":            {record(0, []int{1, 2, 3}, ""), api.ErrCount},
		"no texts":             {record(0, []int{1, 2}), api.ErrCount},
		"nothing in it":        {record(0, nil), api.ErrCount},
		"error -1":             {record(0, []int{-1, 2}, ""), api.ErrRange},
		"error above":          {record(0, []int{highestErr + 1, 2}, ""), api.ErrRange},
		"least error":          {record(0, []int{math.MinInt, 2}, ""), api.ErrRange},
		"highest of errors":    {record(0, []int{math.MaxInt, 2}, ""), api.ErrRange},
		"N -1":                 {record(0, []int{0, -1}, ""), api.ErrRange},
		"N above":              {record(0, []int{0, highestN + 1}, ""), api.ErrRange},
		"highest N":            {record(0, []int{0, math.MaxInt}, ""), api.ErrRange},
		"a long name":          {record(0, []int{0, 0}, "", long), api.ErrLong},
		"the last long":        {record(0, []int{0, 0}, append(make([]string, 63), long)...), api.ErrLong},
		"kind ahead of count":  {record(1, nil, ""), api.ErrKind},
		"kind ahead of range":  {record(1, []int{-1, -1}, ""), api.ErrKind},
		"count ahead of range": {record(0, []int{-1, -1}), api.ErrCount},
		"count ahead of long":  {record(0, []int{0}, "", long), api.ErrCount},
		"range ahead of long":  {record(0, []int{-1, 0}, "", long), api.ErrRange},
	}
	for _, m := range []map[string]wrongOctets{all, unread()} {
		for name, c := range m {
			if r, err := ops.DecodeReply(c.b); err != c.want || !isNoReply(r) {
				t.Errorf("%s: DecodeReply = %+v, %d, want %d", name, r, err, c.want)
			}
		}
	}
	// No name but the data may have more than 255 octets.
	if r, err := ops.DecodeReply(record(0, []int{0, 0}, long, "")); err != api.OK || string(r.Data) != long || len(r.Names) != 1 {
		t.Errorf("long data: %+v, %d", r, err)
	}
}

// holdDecode holds both readers to what they may take: nothing but what the writers lay (P11.3), and all that.
func holdDecode(t *testing.T, b []byte) {
	t.Helper()
	before := slices.Clone(b)
	o, err := ops.Decode(b)
	if err == api.OK {
		if again, err := ops.Encode(o); err != api.OK || !bytes.Equal(again, b) {
			t.Fatalf("Decode takes %x as %+v, Encode of which is %x, %d", b, o, again, err)
		}
	}
	r, replyErr := ops.DecodeReply(b)
	if replyErr == api.OK {
		if again, err := ops.EncodeReply(r); err != api.OK || !bytes.Equal(again, b) {
			t.Fatalf("DecodeReply takes %x as %+v, EncodeReply of which is %x, %d", b, r, again, err)
		}
	}
	if err == api.OK && replyErr == api.OK {
		t.Fatalf("%x is an op and a reply", b)
	}
	if _, wrong := wire.Decode(b); wrong != api.OK && (err != wrong || replyErr != wrong) {
		t.Fatalf("of %x wire.Decode tells %d, Decode %d, DecodeReply %d", b, wrong, err, replyErr)
	}
	if err != api.OK && !isNoOp(o) || replyErr != api.OK && !isNoReply(r) {
		t.Fatalf("beside the errors %d and %d of %x: %+v, %+v", err, replyErr, b, o, r)
	}
	if !bytes.Equal(b, before) {
		t.Fatalf("%x is %x now", before, b)
	}
}

// P11.3: octets cut, changed and sealed anew are taken only where they are what is laid.
func TestSpoiledOctets(t *testing.T) {
	chance := rand.New(rand.NewSource(1))
	whole := [][]byte{
		plainOp(api.Op{Kind: 5, Path: "/a", To: "/b", Off: 300, N: -9, Data: []byte("data")}),
		plainReply(api.Reply{Err: 101, N: 70000, Data: []byte("x"), Names: []string{"ab", "", "c"}}),
		plainReply(api.Reply{}),
		plainOp(api.Op{Kind: 12}),
	}
	for _, b := range whole {
		for i := range b {
			holdDecode(t, b[:i])
			for octet := range 256 {
				changed := slices.Clone(b)
				changed[i] = byte(octet)
				holdDecode(t, changed)
				holdDecode(t, sealed(changed[:len(b)-4]))
			}
			holdDecode(t, sealed(b[:i]))
		}
	}
	for range 20000 {
		some := make([]byte, chance.Intn(12))
		for i := range some {
			some[i] = byte(chance.Intn(4))
		}
		holdDecode(t, sealed(some))
	}
}

// P11.3: ops and replies of chance come back from their octets.
func TestThereAndBack(t *testing.T) {
	chance := rand.New(rand.NewSource(2))
	word := func(most int) string { return text(chance.Intn(most + 1)) }
	for range 2000 {
		o := api.Op{Kind: 1 + chance.Intn(12), Path: word(255), To: word(255), Off: int(chance.Uint64()), N: int(chance.Uint64()) >> chance.Intn(64), Data: []byte(word(4096))}
		b, err := ops.Encode(o)
		if got, back := ops.Decode(b); err != api.OK || back != api.OK || !sameOp(got, o) {
			t.Fatalf("%+v comes back as %+v, %d, %d", o, got, err, back)
		}
		r := api.Reply{Err: api.Errno(chance.Intn(65537)), N: int(chance.Int31()), Data: []byte(word(4096))}
		for range chance.Intn(64) {
			r.Names = append(r.Names, word(255))
		}
		b, err = ops.EncodeReply(r)
		if got, back := ops.DecodeReply(b); err != api.OK || back != api.OK || !sameReply(got, r) {
			t.Fatalf("%+v comes back as %+v, %d, %d", r, got, err, back)
		}
	}
}

// P11.3 and P1: whatever octets come, as they are and sealed.
func FuzzDecode(f *testing.F) {
	f.Add(plainOp(api.Op{Kind: 1, Path: "/a"}))
	f.Add([]byte{0, 2, 0, 0, 1, 0})
	f.Add([]byte{7, 2, 0, 0, 3, 0, 0, 0})
	f.Fuzz(func(t *testing.T, b []byte) {
		holdDecode(t, b)
		holdDecode(t, sealed(b))
	})
}
