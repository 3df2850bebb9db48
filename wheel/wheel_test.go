package wheel

import (
	"math"
	"slices"
	"strconv"
	"strings"
	"testing"
)

const top = math.MaxUint64

// String quotes the name, as it may be bytes that are no text, and tells the deadline's figures.
func (t Timer) String() string {
	return strconv.Quote(t.Name) + " at " + strconv.FormatUint(t.At, 16)
}

// wheelOf puts timers one behind another; all of them should be above the clock.
func wheelOf(t *testing.T, now uint64, timers ...Timer) *Wheel {
	t.Helper()
	w := New(now)
	for _, x := range timers {
		if !w.Put(x.Name, x.At) {
			t.Errorf("Put of %v at %x: false", x, now)
		}
	}
	return w
}

// answers says what a call with a bool answered, and what it should have.
func answers(t *testing.T, what string, got, want bool) {
	t.Helper()
	if got != want {
		t.Errorf("%s: %v, want %v", what, got, want)
	}
}

// tells says what a call told, and what it should have.
func tells(t *testing.T, what string, got []Timer, want ...Timer) {
	t.Helper()
	if !slices.Equal(got, want) {
		t.Errorf("%s: %v, want %v", what, got, want)
	}
}

// slotTells says what stands in a slot, and what should.
func slotTells(t *testing.T, w *Wheel, level, slot int, want []Timer) {
	t.Helper()
	if got := w.Slot(level, slot); !slices.Equal(got, want) {
		t.Errorf("level %d, slot %d: %v, want %v", level, slot, got, want)
	}
}

// standsAlone says that the one timer of a wheel stands there and nowhere else; level 4 is far.
func standsAlone(t *testing.T, w *Wheel, x Timer, level, slot int) {
	t.Helper()
	for l := range 4 {
		for s := range 16 {
			var want []Timer
			if l == level && s == slot {
				want = []Timer{x}
			}
			slotTells(t, w, l, s, want)
		}
	}
	if level == 4 {
		tells(t, "far", w.Far(), x)
	} else {
		tells(t, "far", w.Far())
	}
	if at, is := w.Soonest(); at != x.At || !is || w.Len() != 1 {
		t.Errorf("%v, alone: soonest %x, %v, of %d", x, at, is, w.Len())
	}
}

// empty says that a wheel has no timers, whatever is asked.
func empty(t *testing.T, w *Wheel, now uint64) {
	t.Helper()
	if w.Clock() != now || w.Len() != 0 {
		t.Errorf("nothing is %d timers at %x, want the clock %x", w.Len(), w.Clock(), now)
	}
	if at, is := w.Soonest(); at != 0 || is {
		t.Errorf("soonest of nothing: %x, %v", at, is)
	}
	for level := -2; level < 7; level++ {
		for slot := -2; slot < 19; slot++ {
			slotTells(t, w, level, slot, nil)
		}
	}
	tells(t, "far of nothing", w.Far())
	for _, name := range []string{"", "a", "\x00"} {
		answers(t, "Drop of nothing", w.Drop(name), false)
	}
}

// P7.1: a nil wheel has nothing, takes nothing, and its clock stays.
func TestNil(t *testing.T) {
	var w *Wheel
	empty(t, w, 0)
	for _, name := range []string{"", "a"} {
		for _, at := range []uint64{0, 1, 5, 1 << 40, top} {
			answers(t, "Put", w.Put(name, at), false)
			tells(t, "Advance", w.Advance(at))
		}
	}
	empty(t, w, 0)
}

// P7.1: an empty wheel has nothing but its clock, be it new or empty again.
func TestEmpty(t *testing.T) {
	for _, now := range []uint64{0, 1, 15, 16, 0xFFFF, 1 << 16, 1 << 63, top - 1, top} {
		w := New(now)
		if w == nil {
			t.Fatal("New is nil")
		}
		empty(t, w, now)
		tells(t, "Advance to the clock", w.Advance(now))
		empty(t, w, now)
		tells(t, "Advance to the end", w.Advance(top))
		empty(t, w, top)
	}
	w := wheelOf(t, 0, Timer{"a", 1}, Timer{"b", 300}, Timer{"c", 1 << 20})
	for _, name := range []string{"b", "c", "a"} {
		answers(t, "Drop", w.Drop(name), true)
	}
	empty(t, w, 0)
	w = wheelOf(t, 0, Timer{"a", 1}, Timer{"b", 300}, Timer{"c", 1 << 20})
	w.Advance(1 << 20)
	empty(t, w, 1<<20)
	answers(t, "Put into what is empty again", w.Put("b", 1<<20+2), true)
	standsAlone(t, w, Timer{"b", 1<<20 + 2}, 0, 2)
}

// P7.1: an empty wheel's clock goes where it is told, and never back.
func TestClock(t *testing.T) {
	w := New(7)
	for _, c := range []struct{ to, want uint64 }{{7, 7}, {8, 8}, {3, 8}, {0, 8}, {8, 8}, {1 << 40, 1 << 40}, {9, 1 << 40}, {1<<40 - 1, 1 << 40}, {top, top}, {0, top}, {top - 1, top}, {top, top}} {
		tells(t, "Advance", w.Advance(c.to))
		if w.Clock() != c.want {
			t.Errorf("the clock is %x behind Advance(%x), want %x", w.Clock(), c.to, c.want)
		}
	}
}

// P7.1: two wheels have their own timers and clocks.
func TestApart(t *testing.T) {
	a, b := New(1), New(2)
	a.Put("x", 9)
	empty(t, b, 2)
	answers(t, "Put into the other", b.Put("x", 8), true)
	tells(t, "Advance of the other", b.Advance(100), Timer{"x", 8})
	standsAlone(t, a, Timer{"x", 9}, 0, 9)
	if a.Clock() != 1 {
		t.Errorf("the clock is %d", a.Clock())
	}
}

// P7.1: where a timer stands, by the clock and its deadline; level 4 is far.
func TestStands(t *testing.T) {
	cases := []struct {
		now, at     uint64
		level, slot int
	}{
		{5, 300, 2, 1}, // the document's own

		// The clock at 0: each level, and just below, at and above its edge.
		{0, 1, 0, 1}, {0, 9, 0, 9}, {0, 14, 0, 14}, {0, 15, 0, 15},
		{0, 16, 1, 1}, {0, 17, 1, 1}, {0, 31, 1, 1}, {0, 32, 1, 2}, {0, 0xEF, 1, 14}, {0, 0xF0, 1, 15}, {0, 0xFF, 1, 15},
		{0, 0x100, 2, 1}, {0, 0x101, 2, 1}, {0, 0x1FF, 2, 1}, {0, 0x200, 2, 2}, {0, 0xFFF, 2, 15},
		{0, 0x1000, 3, 1}, {0, 0x1001, 3, 1}, {0, 0x1FFF, 3, 1}, {0, 0x2000, 3, 2}, {0, 0xF000, 3, 15}, {0, 0xFFFF, 3, 15},
		{0, 0x10000, 4, 0}, {0, 0x10001, 4, 0}, {0, 0xFFFFF, 4, 0}, {0, 1 << 32, 4, 0}, {0, 1 << 60, 4, 0}, {0, 1 << 63, 4, 0}, {0, top - 1, 4, 0}, {0, top, 4, 0},

		// A clock with figures of its own: the greatest unlike one counts, not how long it takes.
		{0x12345, 0x12346, 0, 6}, {0x12345, 0x1234F, 0, 15}, {0x12345, 0x12350, 1, 5}, {0x12345, 0x1235F, 1, 5}, {0x12345, 0x12360, 1, 6}, {0x12345, 0x123FF, 1, 15},
		{0x12345, 0x12400, 2, 4}, {0x12345, 0x12445, 2, 4}, {0x12345, 0x12FFF, 2, 15}, {0x12345, 0x13000, 3, 3}, {0x12345, 0x1FFFF, 3, 15},
		{0x12345, 0x20000, 4, 0}, {0x12345, 0x22345, 4, 0}, {0x12345, 0x112345, 4, 0},

		// One tick over an edge.
		{0xF, 0x10, 1, 1}, {0xFF, 0x100, 2, 1}, {0xFFF, 0x1000, 3, 1}, {0xFFFF, 0x10000, 4, 0}, {0x1F, 0x20, 1, 2}, {0x1EF, 0x1F0, 1, 15}, {0xEFFF, 0xF000, 3, 15},
		{0x1FFFF, 0x20000, 4, 0}, {0xFFFFF, 0x100000, 4, 0}, {1<<63 - 1, 1 << 63, 4, 0},

		// Figures that are like at higher places than the greatest unlike one.
		{0xABCD0000, 0xABCD0001, 0, 1}, {0xABCD0000, 0xABCDE000, 3, 14}, {0xABCD0000, 0xABCE0000, 4, 0},
		{1 << 63, 1<<63 + 1, 0, 1}, {1 << 63, 1<<63 + 0xFFFF, 3, 15}, {1 << 63, 1<<63 + 0x10000, 4, 0},

		// Beside the greatest tick.
		{top - 1, top, 0, 15}, {top - 15, top, 0, 15}, {top - 15, top - 1, 0, 14}, {top - 16, top, 1, 15}, {top - 16, top - 15, 1, 15}, {top - 0x100, top, 2, 15}, {top - 0x1000, top, 3, 15}, {top - 0x10000, top, 4, 0}, {top - 0xFFFF, top, 3, 15},
	}
	for _, c := range cases {
		for _, name := range []string{"x", ""} {
			x := Timer{name, c.at}
			w := New(c.now)
			answers(t, "Put at "+strconv.FormatUint(c.now, 16)+" of "+x.String(), w.Put(name, c.at), true)
			standsAlone(t, w, x, c.level, c.slot)
			if w.Clock() != c.now {
				t.Errorf("the clock is %x behind Put, want %x", w.Clock(), c.now)
			}
		}
	}
}

// P7.1: one timer, whatever its name and its deadline, is there until it is dropped or due.
func TestOne(t *testing.T) {
	for _, name := range []string{"", "a", "\x00", "\xff\xfe", "é", strings.Repeat("n", 5000)} {
		for _, at := range []uint64{4, 15, 16, 0xFFF, 0x1000, 0xFFFF, 0x10000, 1 << 63, top - 1, top} {
			x := Timer{name, at}
			w := wheelOf(t, 3, x)
			answers(t, "Drop", w.Drop(name), true)
			empty(t, w, 3)
			answers(t, "Drop again", w.Drop(name), false)

			w = wheelOf(t, 3, x)
			tells(t, "Advance to its deadline", w.Advance(at), x)
			empty(t, w, at)
			tells(t, "Advance again", w.Advance(at))
			tells(t, "Advance to the end", w.Advance(top))

			w = wheelOf(t, 3, x)
			tells(t, "Advance to just ahead of it", w.Advance(at-1))
			if w.Len() != 1 || w.Clock() != at-1 {
				t.Errorf("%d timers at %x", w.Len(), w.Clock())
			}
			tells(t, "Advance behind it", w.Advance(top), x)
			empty(t, w, top)
		}
	}
}

// P7.1: a deadline that is not above the clock is not taken, and changes nothing.
func TestNotAbove(t *testing.T) {
	cases := []struct {
		now  uint64
		none []uint64
	}{
		{0, []uint64{0}},
		{1, []uint64{0, 1}},
		{0x10, []uint64{0, 1, 0xF, 0x10}},
		{0x12345, []uint64{0, 5, 0x2345, 0x12300, 0x12344, 0x12345}},
		{1 << 63, []uint64{0, 1<<63 - 1, 1 << 63}},
		{top - 1, []uint64{0, 1 << 63, top - 2, top - 1}},
		{top, []uint64{0, 1, 1 << 63, top - 1, top}},
	}
	for _, c := range cases {
		for _, at := range c.none {
			w := New(c.now)
			for _, name := range []string{"x", ""} {
				answers(t, "Put", w.Put(name, at), false)
			}
			empty(t, w, c.now)
		}
	}
}

// P7.1: of a name that is there nothing changes, either, if the new deadline is not above the clock.
func TestNotAboveAgain(t *testing.T) {
	for _, at := range []uint64{0x12346, 0x12350, 0x12400, 0x13000, 0x20000, top} {
		for _, wrong := range []uint64{0, 0x12344, 0x12345} {
			w, other := wheelOf(t, 0x12345, Timer{"x", at}), wheelOf(t, 0x12345, Timer{"x", at})
			answers(t, "Put again", w.Put("x", wrong), false)
			alike(t, w, other)
			tells(t, "Advance", w.Advance(at), Timer{"x", at})
		}
	}
}

// alike says that nothing tells two wheels apart, without changing them.
func alike(t *testing.T, a, b *Wheel) {
	t.Helper()
	if a.Clock() != b.Clock() || a.Len() != b.Len() {
		t.Errorf("%d timers at %x, and %d at %x", a.Len(), a.Clock(), b.Len(), b.Clock())
	}
	soonA, isA := a.Soonest()
	if soonB, isB := b.Soonest(); soonA != soonB || isA != isB {
		t.Errorf("soonest %x, %v, and %x, %v", soonA, isA, soonB, isB)
	}
	for level := range 4 {
		for slot := range 16 {
			slotTells(t, a, level, slot, b.Slot(level, slot))
		}
	}
	tells(t, "far", a.Far(), b.Far()...)
}

// P7.1: a name that is put again, earlier, later or the same, has the new deadline, and stands once.
func TestPutAgain(t *testing.T) {
	deadlines := []uint64{0x12346, 0x1234F, 0x12350, 0x1235A, 0x12400, 0x1F000, 0x1FFFF, 0x20000, 1 << 63, top}
	for _, from := range deadlines {
		for _, to := range deadlines {
			for _, name := range []string{"", "x"} {
				w := wheelOf(t, 0x12345, Timer{name, from})
				answers(t, "Put again", w.Put(name, to), true)
				alike(t, w, wheelOf(t, 0x12345, Timer{name, to}))
				tells(t, "Advance to just ahead of it", w.Advance(to-1))
				tells(t, "Advance", w.Advance(to), Timer{name, to})
				tells(t, "Advance to the end", w.Advance(top))

				w = wheelOf(t, 0x12345, Timer{name, from}, Timer{name, to})
				answers(t, "Drop", w.Drop(name), true)
				empty(t, w, 0x12345)
			}
		}
	}
}

// P7.1: a name that is put again behind an Advance stands by the new clock.
func TestPutAgainLater(t *testing.T) {
	w := wheelOf(t, 0, Timer{"a", 0x1234}, Timer{"b", 0x1235})
	tells(t, "Advance", w.Advance(0x1230))
	answers(t, "Put again", w.Put("a", 0x1238), true)
	answers(t, "Put of what is past", w.Put("b", 0x1230), false)
	tells(t, "level 0, slot 4", w.Slot(0, 4))
	tells(t, "level 0, slot 5", w.Slot(0, 5), Timer{"b", 0x1235})
	tells(t, "level 0, slot 8", w.Slot(0, 8), Timer{"a", 0x1238})
	tells(t, "Advance", w.Advance(0x1238), Timer{"b", 0x1235}, Timer{"a", 0x1238})
	answers(t, "Drop of what was told", w.Drop("a"), false)
	answers(t, "Put of what was told", w.Put("a", 0x1239), true)
	standsAlone(t, w, Timer{"a", 0x1239}, 0, 9)
}

// spread are timers at each level and far, as seen from 0x12345, some in one slot and some at one tick.
func spread() []Timer {
	return []Timer{
		{"a", 0x12346}, {"c", 0x1234F}, {"d", 0x1234F},
		{"b", 0x12350}, {"", 0x12351}, {"z", 0x12351}, {"e", 0x123FF},
		{"f", 0x12400}, {"g", 0x124FF}, {"h", 0x12FFF},
		{"i", 0x13000}, {"j", 0x1F123}, {"k", 0x1F123}, {"l", 0x1FFFF},
		{"m", 0x20000}, {"n", 0x20001}, {"o", 1 << 63}, {"p", top - 1}, {"q", top}, {"r", top},
	}
}

// P7.1: each of many is dropped, once; the others stay.
func TestDrop(t *testing.T) {
	timers := spread()
	for i, gone := range timers {
		rest := slices.Delete(slices.Clone(timers), i, i+1)
		w := wheelOf(t, 0x12345, timers...)
		answers(t, "Drop of what was never there", w.Drop("never"), false)
		answers(t, "Drop", w.Drop(gone.Name), true)
		alike(t, w, wheelOf(t, 0x12345, rest...))
		answers(t, "Drop again", w.Drop(gone.Name), false)
		alike(t, w, wheelOf(t, 0x12345, rest...))
		tells(t, "Advance", w.Advance(top), rest...)

		w = wheelOf(t, 0x12345, timers...)
		w.Drop(gone.Name)
		answers(t, "Put of what was dropped", w.Put(gone.Name, gone.At), true)
		alike(t, w, wheelOf(t, 0x12345, timers...))
	}
}

// P7.1: a timer that moved to another level with the clock is dropped from where it stands then.
func TestDropMoved(t *testing.T) {
	for _, at := range []uint64{0x10000, 0x1234, 0x123, 0x12, 0xABCDE, top} {
		for n := range uint64(4) {
			now := at &^ (1<<(4*n) - 1)
			if now == at {
				now--
			}
			w := wheelOf(t, 0, Timer{"x", at})
			tells(t, "Advance", w.Advance(now))
			answers(t, "Drop", w.Drop("x"), true)
			empty(t, w, now)
			tells(t, "Advance behind it", w.Advance(top))
		}
	}
}

// P7.1: of equal deadlines the names decide, byte by byte, a shorter one ahead of what it begins.
func TestNamesDecide(t *testing.T) {
	names := []string{"", "\x00", "\x00\x00", "\x00a", "A", "B", "a", "a\x00", "aa", "aaa", "ab", "b", "ba", "z", "\x7f", "\x80", "é", "\xff", "\xff\x00", "\xff\xff"}
	for _, c := range []struct {
		at          uint64
		level, slot int
	}{{7, 0, 7}, {0x35, 1, 3}, {0x900, 2, 9}, {0xABCD, 3, 10}, {0x10000, 4, 0}, {top, 4, 0}} {
		timers := make([]Timer, len(names))
		for i, name := range names {
			timers[i] = Timer{name, c.at}
		}
		w := New(0)
		for _, x := range slices.Backward(timers) {
			answers(t, "Put", w.Put(x.Name, x.At), true)
		}
		if c.level == 4 {
			tells(t, "Far", w.Far(), timers...)
		} else {
			tells(t, "Slot", w.Slot(c.level, c.slot), timers...)
		}
		if at, is := w.Soonest(); at != c.at || !is {
			t.Errorf("soonest: %x, %v, want %x", at, is, c.at)
		}
		tells(t, "Advance", w.Advance(c.at), timers...)
		empty(t, w, c.at)
	}
}

// P7.1: deadlines decide ahead of names, as numbers without a sign, in a slot, in the far list and in what is told.
func TestDeadlinesDecide(t *testing.T) {
	slot := []Timer{{"z", 0x9000}, {"y", 0x9001}, {"x", 0x900F}, {"w", 0x9010}, {"v", 0x9100}, {"u", 0x9FFF}}
	far := []Timer{{"t", 0x10000}, {"s", 1<<32 - 1}, {"r", 1 << 32}, {"q", 1<<63 - 1}, {"p", 1 << 63}, {"o", 1<<63 + 1}, {"n", top - 1}, {"m", top}}
	w := wheelOf(t, 1, append(slices.Clone(far), slot...)...)
	tells(t, "Slot", w.Slot(3, 9), slot...)
	tells(t, "Far", w.Far(), far...)
	tells(t, "Advance", w.Advance(top), append(slices.Clone(slot), far...)...)
}

// P7.1: a level or a slot that is none has nothing.
func TestNoSlot(t *testing.T) {
	w := New(0)
	for i, at := range []uint64{1, 2, 15, 16, 0x20, 0xF0, 0x100, 0x200, 0xF00, 0x1000, 0x2000, 0xF000, 0x10000, 0xF0000, 1 << 63, top} {
		w.Put(strconv.Itoa(i), at)
	}
	for _, none := range [][2]int{{-1, 0}, {-1, 1}, {-1, 15}, {4, 0}, {4, 1}, {5, 15}, {15, 3}, {16, 0}, {64, 1}, {0, -1}, {1, -1}, {3, -1}, {0, 16}, {1, 16}, {2, 17}, {3, 16}, {3, 32}, {-1, -1}, {4, 16}, {math.MinInt, 1}, {math.MaxInt, 1}, {1, math.MinInt}, {1, math.MaxInt}, {math.MinInt, math.MaxInt}} {
		slotTells(t, w, none[0], none[1], nil)
	}
	tells(t, "level 3, slot 15", w.Slot(3, 15), Timer{"11", 0xF000})
}

// P7.1: Soonest is the least deadline, whichever level it stands at; asking changes nothing.
func TestSoonest(t *testing.T) {
	timers := spread()
	w := New(0x12345)
	for _, x := range slices.Backward(timers) {
		w.Put(x.Name, x.At)
		for range 2 {
			if at, is := w.Soonest(); at != x.At || !is {
				t.Errorf("soonest: %x, %v, want %v", at, is, x)
			}
		}
	}
	alike(t, w, wheelOf(t, 0x12345, timers...))
	for i, x := range timers {
		if at, is := w.Soonest(); at != x.At || !is {
			t.Errorf("soonest of %d: %x, %v, want %v", len(timers)-i, at, is, x)
		}
		w.Drop(x.Name)
	}
	empty(t, w, 0x12345)
}

// P7.1: in one slot, and far, Soonest is the least of several.
func TestSoonestOfSlot(t *testing.T) {
	for _, from := range []uint64{0x100, 0x3000, 0x10000, top - 20} {
		w := New(0)
		for i := range uint64(20) {
			w.Put(strconv.Itoa(int(i)), from+(i*7+3)%20)
		}
		if at, is := w.Soonest(); at != from || !is {
			t.Errorf("soonest: %x, %v, want %x", at, is, from)
		}
	}
}

// Rule 4: what is answered is new memory, its spare capacity too.
func TestHandedOut(t *testing.T) {
	timers := spread()
	plain, w := wheelOf(t, 0x12345, timers...), wheelOf(t, 0x12345, timers...)
	for level := range 4 {
		for slot := range 16 {
			wipe(w.Slot(level, slot))
		}
	}
	wipe(w.Far())
	alike(t, w, plain)

	slot, far := w.Slot(0, 15), w.Far()
	due := w.Advance(0x12350)
	w.Put("a", 0x12352)
	wipe(w.Advance(0x1F000))
	wipe(w.Advance(top))
	tells(t, "Slot, handed out", slot, Timer{"c", 0x1234F}, Timer{"d", 0x1234F})
	tells(t, "Far, handed out", far, timers[14:]...)
	tells(t, "Advance, handed out", due, timers[:4]...)

	w = wheelOf(t, 0x12345, timers...)
	wipe(w.Advance(0x12350))
	wipe(w.Advance(0x20000))
	alike(t, w, wheelOf(t, 0x20000, timers[15:]...))
}

// wipe writes over a list that was handed out, and behind its length.
func wipe(l []Timer) {
	l = l[:cap(l)]
	for i := range l {
		l[i] = Timer{"wiped", 1}
	}
}
