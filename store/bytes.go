package store

import (
	"bytes"

	"belfry/api"
)

const (
	wideSize  = 8 // bytes of a clock, or a version
	shortSize = 2 // bytes of a count, or a length
)

// Bytes are the state's.
func (s *Store) Bytes() []byte {
	if s == nil {
		return nil
	}
	l := s.changes()
	b := appendNumber(nil, s.timers.Clock(), wideSize)
	b = appendNumber(b, uint64(s.version), wideSize)
	b = appendNumber(b, uint64(len(l)), shortSize)
	for _, c := range l {
		data, _ := Encode(c) // what a store has is right
		b = appendNumber(b, uint64(len(data)), shortSize)
		b = append(b, data...)
	}
	return b
}

// Read is the store of bytes.
func Read(b []byte) (*Store, api.Errno) {
	r := reader{b}
	s, is := r.store()
	// What is missing, out of order, there twice or behind the end is known by
	// this: the store that was read has other bytes.
	if !is || !bytes.Equal(s.Bytes(), b) {
		return nil, api.ErrBytes
	}
	return s, api.OK
}

// changes are those that make the store's keys and timers, in their order.
func (s *Store) changes() []api.Change {
	var l []api.Change
	for _, e := range s.Keys() {
		l = append(l, api.Change{Kind: api.HasKey, Key: e.Key, Value: e.Value})
	}
	for _, t := range s.timers.All() {
		l = append(l, api.Change{Kind: api.HasTimer, Timer: t})
	}
	return l
}

// appendNumber appends a number of so many bytes, the highest first.
func appendNumber(b []byte, n uint64, size int) []byte {
	for i := size - 1; i >= 0; i-- {
		b = append(b, byte(n>>(8*i)))
	}
	return b
}

// reader has the bytes that are not read yet.
type reader struct {
	rest []byte
}

// store is the one that bytes tell, as far as they do.
func (r *reader) store() (*Store, bool) {
	clock, version := r.number(wideSize), r.number(wideSize)
	// No timer's version is above MaxNumber, so no store's is above the one behind it.
	if version > api.MaxNumber+1 {
		return nil, false
	}
	var l []api.Change
	for range r.number(shortSize) {
		c, e := Decode(r.take(int(r.number(shortSize))))
		if e != api.OK {
			return nil, false
		}
		l = append(l, c)
	}
	s := New(clock)
	if _, e := s.Do(l); e != api.OK || s.version > int(version) {
		return nil, false
	}
	s.version = int(version)
	return s, true
}

// number is the one that so many bytes are, the highest first.
func (r *reader) number(size int) uint64 {
	var n uint64
	for _, digit := range r.take(size) {
		n = n<<8 | uint64(digit)
	}
	return n
}

// take takes so many bytes from the front, or all, if there are fewer.
func (r *reader) take(n int) []byte {
	n = min(n, len(r.rest))
	taken := r.rest[:n]
	r.rest = r.rest[n:]
	return taken
}
