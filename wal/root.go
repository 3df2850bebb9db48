package wal

import (
	"belfry/api"
	"belfry/codec"
)

// The tags of a root's fields.
const (
	tagSegment = 1 + iota // the first segment's number
	tagRecord             // the number of its first record
)

// newRoot tells the first segment's number, and its first record's.
func newRoot(segment, record int) []byte {
	// Two short fields with right tags are always a list.
	b, _ := codec.Encode([]api.Field{
		{Tag: tagSegment, Data: codec.Bytes(uint64(segment))},
		{Tag: tagRecord, Data: codec.Bytes(uint64(record))},
	})
	return b
}

// readRoot is what a root tells; 0 and 0, if it is none.
func readRoot(b []byte) (segment, record int) {
	l, e := codec.Decode(b)
	if e != api.OK || len(l) != 2 {
		return 0, 0
	}
	s, ok := readNumber(l[0], tagSegment)
	r, also := readNumber(l[1], tagRecord)
	if !ok || !also {
		return 0, 0
	}
	return s, r
}

// readNumber is the number of a field with that tag, if a root may tell it.
func readNumber(f api.Field, tag int) (int, bool) {
	n, ok := codec.Number(f.Data)
	if !ok || f.Tag != tag || n > api.MaxNumber {
		return 0, false
	}
	return int(n), true
}
