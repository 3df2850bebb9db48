package calendar

import (
	"math"
	"math/big"
	"math/rand"
	"slices"
	"testing"
)

const top = math.MaxUint64

// answer is all that the calls say of a deadline and a tick.
type answer struct {
	next    uint64
	isNext  bool
	last    uint64
	isLast  bool
	count   uint64
	index   uint64
	isIndex bool
}

func ask(at, every, now uint64) answer {
	var a answer
	a.next, a.isNext = Next(at, every, now)
	a.last, a.isLast = Last(at, every, now)
	a.count = Count(at, every, now)
	a.index, a.isIndex = Index(at, every, now)
	return a
}

// listed is what the chapter's words say, of occurrences that are listed one by one.
func listed(occurrences []uint64, now uint64) answer {
	var a answer
	for i, x := range occurrences {
		if x == now {
			a.index, a.isIndex = uint64(i), true
		}
		if x > now {
			a.next, a.isNext = x, true
			break
		}
		a.last, a.isLast = x, true
		a.count++
	}
	return a
}

// list is the occurrences from at on, at most so many of them.
func list(at, every uint64, most int) []uint64 {
	occurrences := []uint64{at}
	for x := at; every > 0 && every <= top-x && len(occurrences) < most; {
		x += every
		occurrences = append(occurrences, x)
	}
	return occurrences
}

// wide is what the chapter's words say, in numbers that have no end.
func wide(at, every, now uint64) answer {
	big1, bigTop := big.NewInt(1), new(big.Int).SetUint64(top)
	a, e, n := new(big.Int).SetUint64(at), new(big.Int).SetUint64(every), new(big.Int).SetUint64(now)
	if now < at {
		return answer{next: at, isNext: true}
	}
	if every == 0 {
		return answer{last: at, isLast: true, count: 1, isIndex: at == now}
	}
	var w answer
	index, rest := new(big.Int).QuoRem(new(big.Int).Sub(n, a), e, new(big.Int))
	last := new(big.Int).Add(a, new(big.Int).Mul(index, e))
	w.last, w.isLast = last.Uint64(), true
	if rest.Sign() == 0 {
		w.index, w.isIndex = index.Uint64(), true
	}
	if next := last.Add(last, e); next.Cmp(bigTop) <= 0 {
		w.next, w.isNext = next.Uint64(), true
	}
	if count := index.Add(index, big1); count.Cmp(bigTop) <= 0 {
		w.count = count.Uint64()
	} else {
		w.count = top
	}
	return w
}

// edges are ticks beside which something may go wrong.
func edges() []uint64 {
	l := []uint64{1<<63 - 3, 1<<63 - 2, 1<<63 - 1, 1 << 63, 1<<63 + 1, 1<<32 - 1, 1 << 32, 1<<32 + 1, 1 << 62, top / 3, top/3 + 1}
	for i := range uint64(7) {
		l = append(l, i, top-i)
	}
	return l
}

// P5.1: sums, up to the greatest tick, at it, and above it.
func TestPlus(t *testing.T) {
	cases := []struct{ a, b, want uint64 }{
		{0, 0, 0},
		{2, 3, 5},
		{0, top, top},
		{1, top - 2, top - 1},
		{1, top - 1, top},
		{1, top, top},
		{2, top - 1, top},
		{top, top, top},
		{1 << 63, 1<<63 - 2, top - 1},
		{1 << 63, 1<<63 - 1, top},
		{1 << 63, 1 << 63, top},
		{1 << 62, 1 << 62, 1 << 63},
	}
	for _, c := range cases {
		if got := Plus(c.a, c.b); got != c.want {
			t.Errorf("Plus(%d, %d) = %d, want %d", c.a, c.b, got, c.want)
		}
		if got := Plus(c.b, c.a); got != c.want {
			t.Errorf("Plus(%d, %d) = %d, want %d", c.b, c.a, got, c.want)
		}
	}
}

// P5.1: Plus at all edges, held against numbers that have no end.
func TestPlusWide(t *testing.T) {
	bigTop := new(big.Int).SetUint64(top)
	for _, a := range edges() {
		for _, b := range edges() {
			sum := new(big.Int).Add(new(big.Int).SetUint64(a), new(big.Int).SetUint64(b))
			want := uint64(top)
			if sum.Cmp(bigTop) < 0 {
				want = sum.Uint64()
			}
			if got := Plus(a, b); got != want {
				t.Errorf("Plus(%d, %d) = %d, want %d", a, b, got, want)
			}
		}
	}
}

// P5.1: what is written out by hand.
func TestKnown(t *testing.T) {
	cases := []struct {
		what           string
		at, every, now uint64
		want           answer
	}{
		{"ahead of the deadline", 5, 3, 0, answer{next: 5, isNext: true}},
		{"right ahead of it", 5, 3, 4, answer{next: 5, isNext: true}},
		{"at it", 5, 3, 5, answer{next: 8, isNext: true, last: 5, isLast: true, count: 1, isIndex: true}},
		{"right behind it", 5, 3, 6, answer{next: 8, isNext: true, last: 5, isLast: true, count: 1}},
		{"right ahead of an occurrence", 5, 3, 10, answer{next: 11, isNext: true, last: 8, isLast: true, count: 2}},
		{"at an occurrence", 5, 3, 11, answer{next: 14, isNext: true, last: 11, isLast: true, count: 3, index: 2, isIndex: true}},
		{"between two", 5, 3, 12, answer{next: 14, isNext: true, last: 11, isLast: true, count: 3}},
		{"a step longer than the deadline", 2, 10, 21, answer{next: 22, isNext: true, last: 12, isLast: true, count: 2}},

		{"once, ahead of it", 5, 0, 4, answer{next: 5, isNext: true}},
		{"once, at it", 5, 0, 5, answer{last: 5, isLast: true, count: 1, isIndex: true}},
		{"once, behind it", 5, 0, 6, answer{last: 5, isLast: true, count: 1}},
		{"once, at the greatest tick", 5, 0, top, answer{last: 5, isLast: true, count: 1}},
		{"once, at 0", 0, 0, 0, answer{last: 0, isLast: true, count: 1, isIndex: true}},
		{"once, behind 0", 0, 0, 1, answer{last: 0, isLast: true, count: 1}},
		{"once, the greatest tick, ahead of it", top, 0, top - 1, answer{next: top, isNext: true}},
		{"once, the greatest tick, at it", top, 0, top, answer{last: top, isLast: true, count: 1, isIndex: true}},

		{"every tick, ahead of it", 7, 1, 6, answer{next: 7, isNext: true}},
		{"every tick, at it", 7, 1, 7, answer{next: 8, isNext: true, last: 7, isLast: true, count: 1, isIndex: true}},
		{"every tick, later", 7, 1, 9, answer{next: 10, isNext: true, last: 9, isLast: true, count: 3, index: 2, isIndex: true}},
		{"every tick from 0 on, at it", 0, 1, 0, answer{next: 1, isNext: true, last: 0, isLast: true, count: 1, isIndex: true}},
		{"every tick from 0 on, one ahead of the greatest", 0, 1, top - 1, answer{next: top, isNext: true, last: top - 1, isLast: true, count: top, index: top - 1, isIndex: true}},
		{"every tick from 0 on, at the greatest", 0, 1, top, answer{last: top, isLast: true, count: top, index: top, isIndex: true}},
		{"every tick from 1 on, at the greatest", 1, 1, top, answer{last: top, isLast: true, count: top, index: top - 1, isIndex: true}},
		{"every other tick from 0 on, at the greatest", 0, 2, top, answer{last: top - 1, isLast: true, count: 1 << 63}},

		{"an occurrence is the greatest tick, ahead of it", top - 6, 3, top - 1, answer{next: top, isNext: true, last: top - 3, isLast: true, count: 2}},
		{"an occurrence is the greatest tick, at it", top - 6, 3, top, answer{last: top, isLast: true, count: 3, index: 2, isIndex: true}},
		{"an occurrence beside the greatest tick, at it", top - 7, 3, top - 1, answer{last: top - 1, isLast: true, count: 3, index: 2, isIndex: true}},
		{"an occurrence beside the greatest tick, behind it", top - 7, 3, top, answer{last: top - 1, isLast: true, count: 3}},
		{"the greatest tick, every tick", top, 1, top, answer{last: top, isLast: true, count: 1, isIndex: true}},
		{"the greatest tick, by the greatest step", top, top, top, answer{last: top, isLast: true, count: 1, isIndex: true}},
		{"0 by the greatest step, between", 0, top, top - 1, answer{next: top, isNext: true, last: 0, isLast: true, count: 1}},
		{"0 by the greatest step, at the second", 0, top, top, answer{last: top, isLast: true, count: 2, index: 1, isIndex: true}},
		{"1 by the greatest step", 1, top, 5, answer{last: 1, isLast: true, count: 1}},
		{"a sum of just one above the greatest tick", 1 << 63, 1 << 63, top, answer{last: 1 << 63, isLast: true, count: 1}},
		{"a sum of just the greatest tick", 1 << 63, 1<<63 - 1, top - 1, answer{next: top, isNext: true, last: 1 << 63, isLast: true, count: 1}},
	}
	for _, c := range cases {
		if got := ask(c.at, c.every, c.now); got != c.want {
			t.Errorf("%s: (%d, %d, %d): %+v, want %+v", c.what, c.at, c.every, c.now, got, c.want)
		}
	}
}

// P5.1: a tick that is no occurrence has no index, be it ahead of the
// deadline, between two, or where the next sum would have come round.
func TestNoOccurrence(t *testing.T) {
	cases := []struct{ at, every, tick uint64 }{
		{5, 3, 0}, {5, 3, 2}, {5, 3, 4}, {5, 3, 6}, {5, 3, 7}, {5, 3, top},
		{5, 0, 0}, {5, 0, 4}, {5, 0, 6}, {5, 0, 10}, {5, 0, top},
		{5, 1, 4}, {5, 1, 0},
		{top, 1, 0}, {top, 3, 2}, {top - 1, 3, 1}, {1 << 63, 1 << 63, 0}, {2, top, 1},
	}
	for _, c := range cases {
		if i, is := Index(c.at, c.every, c.tick); i != 0 || is {
			t.Errorf("Index(%d, %d, %d) = %d, %v", c.at, c.every, c.tick, i, is)
		}
	}
}

// P5.1: small numbers, and their like at the upper end, where sums would come
// round: all of them, held against occurrences listed one by one.
func TestListed(t *testing.T) {
	for _, base := range []uint64{0, 1<<63 - 20, top - 40} {
		for at := base; at < base+12; at++ {
			for every := range uint64(45) {
				occurrences := list(at, every, 60)
				for i := range uint64(41) {
					now := base + i
					if got, want := ask(at, every, now), listed(occurrences, now); got != want {
						t.Fatalf("(%d, %d, %d): %+v, want %+v", at, every, now, got, want)
					}
				}
			}
		}
	}
}

// P5.1: all edges with each other, held against numbers that have no end.
func TestEdges(t *testing.T) {
	for _, at := range edges() {
		for _, every := range edges() {
			for _, now := range edges() {
				if got, want := ask(at, every, now), wide(at, every, now); got != want {
					t.Errorf("(%d, %d, %d): %+v, want %+v", at, every, now, got, want)
				}
			}
		}
	}
}

// number is one of any size, so that small and great ones meet.
func number(r *rand.Rand) uint64 {
	n := r.Uint64() >> r.Intn(64)
	if r.Intn(4) == 0 {
		return top - n
	}
	return n
}

// P5.1: numbers of all sizes, held against numbers that have no end.
func TestWide(t *testing.T) {
	r := rand.New(rand.NewSource(1))
	for range 200000 {
		at, every, now := number(r), number(r), number(r)
		if got, want := ask(at, every, now), wide(at, every, now); got != want {
			t.Fatalf("(%d, %d, %d): %+v, want %+v", at, every, now, got, want)
		}
	}
}

// between holds Last, Next, Count and Index against each other.
func between(t *testing.T, at, every, now uint64) {
	t.Helper()
	next, isNext := Next(at, every, now)
	last, isLast := Last(at, every, now)
	index, isIndex := Index(at, every, last)
	if !isLast {
		if Count(at, every, now) != 0 || next != at || !isNext || now >= at {
			t.Fatalf("(%d, %d, %d): no last one, %d, and %d is next", at, every, now, Count(at, every, now), next)
		}
		return
	}
	if !isIndex || last > now {
		t.Fatalf("(%d, %d, %d): %d is last, and no occurrence, or above", at, every, now, last)
	}
	// Where they are 2^64, one more is told as the greatest tick.
	if count := Count(at, every, now); count != index+1 && (index != top || count != top) {
		t.Fatalf("(%d, %d, %d): %d of them, the last one's index %d", at, every, now, count, index)
	}
	if !isNext {
		if every != 0 && every <= top-last {
			t.Fatalf("(%d, %d, %d): %d is last, and none is next", at, every, now, last)
		}
		return
	}
	if behind, is := Index(at, every, next); !is || behind != index+1 || next <= now {
		t.Fatalf("(%d, %d, %d): %d is next, its index %d, the last one's %d", at, every, now, next, behind, index)
	}
}

// P5.2: at small numbers, and at the upper end, each tick between Last and Next
// is asked; where there is no Next, each one up to the end.
func TestBetween(t *testing.T) {
	const span = 40
	for _, base := range []uint64{0, top - span} {
		for at := base; at < base+10; at++ {
			for every := range uint64(15) {
				for i := range uint64(span + 1) {
					now := base + i
					between(t, at, every, now)
					last, isLast := Last(at, every, now)
					next, isNext := Next(at, every, now)
					for j := range uint64(span + 1) {
						x := base + j
						inside := (!isLast || x > last) && (!isNext || x < next)
						if _, is := Index(at, every, x); is && inside {
							t.Fatalf("(%d, %d, %d): %d is between %d and %d", at, every, now, x, last, next)
						}
					}
				}
			}
		}
	}
}

// P5.2: numbers of all sizes.
func TestBetweenWide(t *testing.T) {
	for _, at := range edges() {
		for _, every := range edges() {
			for _, now := range edges() {
				between(t, at, every, now)
			}
		}
	}
	r := rand.New(rand.NewSource(2))
	for range 200000 {
		between(t, number(r), number(r), number(r))
	}
}

// P5.3: from Next to Next, all occurrences and nothing else, to their end.
func TestOnAndOn(t *testing.T) {
	cases := []struct{ at, every uint64 }{
		{1, 1}, {5, 3}, {5, 0}, {7, 1}, {100, 1 << 40}, {1, top}, {1, top - 1}, {1, top - 2}, {3, top / 3}, {1, top / 50}, {17, top / 50},
		{top, 0}, {top, 1}, {top, top}, {top - 1, 1}, {top - 1, 2}, {top - 50, 1}, {top - 50, 7}, {top - 49, 7}, {1 << 63, 1 << 63}, {1 << 63, 1<<63 - 1},
	}
	const most = 60
	for _, c := range cases {
		var passed []uint64
		now := uint64(0)
		for len(passed) < most {
			next, is := Next(c.at, c.every, now)
			if !is {
				break
			}
			if i, is := Index(c.at, c.every, next); !is || i != uint64(len(passed)) {
				t.Errorf("(%d, %d): %d has index %d, %v, behind %d others", c.at, c.every, next, i, is, len(passed))
			}
			passed = append(passed, next)
			now = next
		}
		if want := list(c.at, c.every, most); !slices.Equal(passed, want) {
			t.Errorf("(%d, %d): passed %d, want %d", c.at, c.every, passed, want)
		}
	}
}

// P5.3: who starts anywhere passes all that are above, up to the last one that is a tick.
func TestOnFromAnywhere(t *testing.T) {
	r := rand.New(rand.NewSource(3))
	for range 20000 {
		at, now := number(r), number(r)
		every := top/uint64(1+r.Intn(20)) - uint64(r.Intn(3))
		occurrences := list(at, every, 100)
		above := slices.IndexFunc(occurrences, func(x uint64) bool { return x > now })
		if above < 0 {
			above = len(occurrences)
		}
		x := now
		for _, want := range occurrences[above:] {
			next, is := Next(at, every, x)
			if !is || next != want {
				t.Fatalf("Next(%d, %d, %d) = %d, %v, want %d", at, every, x, next, is, want)
			}
			x = next
		}
		if next, is := Next(at, every, x); is || next != 0 {
			t.Fatalf("Next(%d, %d, %d) = %d, %v, behind the last one", at, every, x, next, is)
		}
		if last, is := Last(at, every, top); !is || last != occurrences[len(occurrences)-1] {
			t.Fatalf("Last(%d, %d) of all = %d, %v, want %d", at, every, last, is, occurrences[len(occurrences)-1])
		}
	}
}

// P2: asked again, all say the same, whatever was asked between.
func TestSameAgain(t *testing.T) {
	want := ask(5, 3, 12)
	for _, x := range edges() {
		ask(x, 1, top)
		ask(0, x, x)
		if got := ask(5, 3, 12); got != want {
			t.Fatalf("%+v, and %+v ahead of it", got, want)
		}
	}
}

func FuzzCalendar(f *testing.F) {
	f.Add(uint64(5), uint64(3), uint64(11))
	f.Add(uint64(0), uint64(1), uint64(top))
	f.Add(uint64(1<<63), uint64(1<<63), uint64(top))
	f.Fuzz(func(t *testing.T, at, every, now uint64) {
		if got, want := ask(at, every, now), wide(at, every, now); got != want {
			t.Errorf("(%d, %d, %d): %+v, want %+v", at, every, now, got, want)
		}
		between(t, at, every, now)
	})
}
