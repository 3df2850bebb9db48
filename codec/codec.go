// Package codec is layer 1: see shared/doc/01-codec.md.
package codec

import (
	"bytes"
	"iter"
	"math/bits"
	"slices"

	"belfry/api"
)

const (
	headSize   = 3 // bytes ahead of a field's data: its tag, and two that say how many follow
	maxTag     = 255
	numberSize = 8 // bytes of the greatest number
)

// Encode are a list's bytes.
func Encode(l []api.Field) ([]byte, api.Errno) {
	if len(l) > api.MaxFields {
		return nil, api.ErrField
	}
	var b []byte
	for f := range slices.Values(l) {
		if !right(f) {
			return nil, api.ErrField
		}
		n := len(f.Data)
		b = append(b, byte(f.Tag), byte(n>>8), byte(n))
		b = append(b, f.Data...)
	}
	return b, api.OK
}

// Decode is the list of bytes.
func Decode(b []byte) ([]api.Field, api.Errno) {
	var l []api.Field
	for f, ok := range fields(b) {
		if !ok || len(l) == api.MaxFields {
			return nil, api.ErrBytes
		}
		// The bytes stay the caller's, so each field gets memory of its own.
		l = append(l, api.Field{Tag: f.Tag, Data: bytes.Clone(f.Data)})
	}
	return l, api.OK
}

// Find are the bytes of a tag's first field.
func Find(l []api.Field, tag int) ([]byte, bool) {
	for f := range slices.Values(l) {
		if f.Tag == tag {
			return bytes.Clone(f.Data), true
		}
	}
	return nil, false
}

// Bytes are a number's.
func Bytes(n uint64) []byte {
	b := make([]byte, (bits.Len64(n)+7)/8)
	for i := range b {
		b[len(b)-1-i] = byte(n >> (8 * i))
	}
	return b
}

// Number is that of bytes.
func Number(b []byte) (uint64, bool) {
	if len(b) > numberSize || len(b) > 0 && b[0] == 0 {
		return 0, false
	}
	var n uint64
	for _, digit := range b {
		n = n<<8 | uint64(digit)
	}
	return n, true
}

// right tells whether a field may be in a list.
func right(f api.Field) bool {
	return 1 <= f.Tag && f.Tag <= maxTag && len(f.Data) <= api.MaxField
}

// fields goes through the fields that bytes hold, and ends with a false one
// where they hold none. A field's data is a part of the bytes, not a copy.
func fields(b []byte) iter.Seq2[api.Field, bool] {
	return func(yield func(api.Field, bool) bool) {
		for rest := b; len(rest) > 0; {
			f, ok := first(rest)
			if !yield(f, ok) || !ok {
				return
			}
			rest = rest[headSize+len(f.Data):]
		}
	}
}

// first is the field at the beginning of bytes.
func first(b []byte) (api.Field, bool) {
	if len(b) < headSize {
		return api.Field{}, false
	}
	n := int(b[1])<<8 | int(b[2])
	if n > len(b)-headSize {
		return api.Field{}, false
	}
	f := api.Field{Tag: int(b[0]), Data: b[headSize : headSize+n]}
	if !right(f) {
		return api.Field{}, false
	}
	return f, true
}
