package wheel

import (
	"cmp"
	"math/bits"
	"slices"
)

// A figure to the base 16 is four bits.
const figureBits = 4

// set are timers in no order.
type set map[Timer]struct{}

// add puts a timer into the set.
func (s set) add(t Timer) {
	s[t] = struct{}{}
}

// empty takes all timers out of the set.
func (s set) empty() []Timer {
	taken := s.timers()
	clear(s)
	return taken
}

// inOrder are the timers as they are told.
func (s set) inOrder() []Timer {
	l := s.timers()
	slices.SortFunc(l, Timer.compare)
	return l
}

// timers are the timers in any order: nobody may tell them as they are.
func (s set) timers() []Timer {
	l := make([]Timer, 0, len(s))
	for t := range s {
		l = append(l, t)
	}
	return l
}

// compare tells the order: by deadlines, then by names.
func (t Timer) compare(other Timer) int {
	if t.At != other.At {
		return cmp.Compare(t.At, other.At)
	}
	return cmp.Compare(t.Name, other.Name)
}

// unlike is the greatest place at which two ticks that are not the same have unlike figures.
func unlike(a, b uint64) int {
	return (bits.Len64(a^b) - 1) / figureBits
}

// figure is a tick's figure at a place.
func figure(tick uint64, place int) int {
	return int(tick >> (figureBits * place) % slots)
}
