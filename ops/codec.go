package ops

import (
	"math"

	"undercroft/api"
	"undercroft/wire"
)

// maxErr is the highest number of an error that a reply may have.
const maxErr = 1 << 16

// How many numbers a record has, and how many texts that of an op.
const (
	numCount    = 2
	opTextCount = 3
)

// Encode lays o in octets.
func Encode(o api.Op) ([]byte, api.Errno) {
	if err := Check(o); err != api.OK {
		return nil, err
	}
	return wire.Encode(wire.Record{
		Kind:  o.Kind,
		Nums:  []int{o.Off, o.N},
		Texts: [][]byte{[]byte(o.Path), []byte(o.To), o.Data},
	})
}

// Decode reads the op that Encode laid.
func Decode(b []byte) (api.Op, api.Errno) {
	record, err := wire.Decode(b)
	if err != api.OK {
		return api.Op{}, err
	}
	if len(record.Nums) != numCount || len(record.Texts) != opTextCount {
		return api.Op{}, api.ErrCount
	}
	// What wire.Decode answers is new memory, so that Data needs no copy.
	o := api.Op{
		Kind: record.Kind,
		Path: string(record.Texts[0]),
		To:   string(record.Texts[1]),
		Off:  record.Nums[0],
		N:    record.Nums[1],
		Data: record.Texts[2],
	}
	if err := Check(o); err != api.OK {
		return api.Op{}, err
	}
	return o, api.OK
}

// checkReply tells whether r may be.
func checkReply(r api.Reply) api.Errno {
	switch {
	case r.Err < 0 || r.Err > maxErr || r.N < 0 || r.N > math.MaxInt32:
		return api.ErrRange
	case len(r.Data) > api.MaxPayload:
		return api.ErrLong
	case len(r.Names) > api.MaxTexts:
		return api.ErrCount
	case hasLonger(maxName, r.Names...):
		return api.ErrLong
	}
	return api.OK
}

// EncodeReply lays r in octets.
func EncodeReply(r api.Reply) ([]byte, api.Errno) {
	if err := checkReply(r); err != api.OK {
		return nil, err
	}
	texts := [][]byte{r.Data}
	for _, name := range r.Names {
		texts = append(texts, []byte(name))
	}
	return wire.Encode(wire.Record{Kind: reply, Nums: []int{int(r.Err), r.N}, Texts: texts})
}

// DecodeReply reads the reply that EncodeReply laid.
func DecodeReply(b []byte) (api.Reply, api.Errno) {
	record, err := wire.Decode(b)
	if err != api.OK {
		return api.Reply{}, err
	}
	if record.Kind != reply {
		return api.Reply{}, api.ErrKind
	}
	if len(record.Nums) != numCount || len(record.Texts) == 0 {
		return api.Reply{}, api.ErrCount
	}
	r := api.Reply{Err: api.Errno(record.Nums[0]), N: record.Nums[1], Data: record.Texts[0]}
	for _, text := range record.Texts[1:] {
		r.Names = append(r.Names, string(text))
	}
	// A record has too few texts for what EncodeReply refuses beside this.
	if err := checkReply(r); err != api.OK {
		return api.Reply{}, err
	}
	return r, api.OK
}
