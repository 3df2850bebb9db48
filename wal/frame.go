package wal

import (
	"iter"

	"belfry/api"
	"belfry/crc"
)

const (
	countSize = 2 // bytes that say how many the record has
	sumSize   = 4
	headSize  = countSize + sumSize
)

// frame is a record as it stands in a segment: how many bytes it has, the sum, and these.
type frame []byte

func newFrame(record []byte) frame {
	n := len(record)
	f := make(frame, headSize+n)
	f[0], f[1] = byte(n>>8), byte(n)
	copy(f.record(), record)
	sum := f.sum()
	for i := range sumSize {
		f[headSize-1-i] = byte(sum >> (8 * i))
	}
	return f
}

func (f frame) record() []byte {
	return f[headSize:]
}

// sum is what the frame's sum should be.
func (f frame) sum() uint32 {
	return crc.More(crc.Sum(f[:countSize]), f.record())
}

// right tells whether the frame's sum is what it should be.
func (f frame) right() bool {
	var written uint32
	for _, x := range f[countSize:headSize] {
		written = written<<8 | uint32(x)
	}
	return written == f.sum()
}

// frames goes through the whole frames that bytes begin with. Whether each is
// right is left to be asked, as who looks for one need not sum those ahead of it.
func frames(b []byte) iter.Seq[frame] {
	return func(yield func(frame) bool) {
		for rest := b; ; {
			n := frameSize(rest)
			if n == 0 || !yield(frame(rest[:n])) {
				return
			}
			rest = rest[n:]
		}
	}
}

// frameSize is how many bytes the frame has that bytes begin with; 0, if no whole one stands there.
func frameSize(b []byte) int {
	if len(b) < headSize {
		return 0
	}
	n := int(b[0])<<8 | int(b[1])
	if n < 1 || n > api.MaxRecord || n > len(b)-headSize {
		return 0
	}
	return headSize + n
}

// measure is how many right frames bytes begin with, and how many bytes these have.
func measure(b []byte) (count, size int) {
	for f := range frames(b) {
		if !f.right() {
			break
		}
		count++
		size += len(f)
	}
	return count, size
}
