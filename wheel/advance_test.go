package wheel

import (
	"maps"
	"math/rand"
	"slices"
	"strconv"
	"strings"
	"testing"
)

// P7.1: a tick below the clock, and the clock's own, tell nothing and change nothing.
func TestAdvanceNowhere(t *testing.T) {
	for _, now := range []uint64{0, 1, 0x12344, 0x12345} {
		w := wheelOf(t, 0x12345, spread()...)
		tells(t, "Advance", w.Advance(now))
		alike(t, w, wheelOf(t, 0x12345, spread()...))
	}
	w := wheelOf(t, 0x12345, spread()...)
	w.Advance(0x12400)
	for _, now := range []uint64{0, 0x12345, 0x12350, 0x123FF, 0x12400} {
		tells(t, "Advance", w.Advance(now))
		alike(t, w, wheelOf(t, 0x12400, spread()[8:]...))
	}
}

// P7.1, P7.2: one leap to or beside each deadline tells what is due, and leaves the others where they should stand.
func TestLeap(t *testing.T) {
	timers := spread()
	ticks := []uint64{0x1234E, 0x13FFF, 0x1F000, 0x1FFFE, 0x2FFFF, 0x30000, 1<<63 - 1, 1<<63 + 1}
	for _, x := range timers {
		ticks = append(ticks, x.At-1, x.At)
	}
	for _, now := range ticks {
		n := slices.IndexFunc(timers, func(x Timer) bool { return x.At > now })
		if n < 0 {
			n = len(timers)
		}
		if now < 0x12345 {
			t.Fatalf("%x is below the clock", now)
		}
		w := wheelOf(t, 0x12345, timers...)
		tells(t, "Advance to "+strconv.FormatUint(now, 16), w.Advance(now), timers[:n]...)
		alike(t, w, wheelOf(t, now, timers[n:]...))
		tells(t, "Advance to the same", w.Advance(now))
		tells(t, "Advance to the end", w.Advance(top), timers[n:]...)
		empty(t, w, top)
	}
}

// P7.2, P7.3: a timer comes down the levels as the clock comes near it, and is told at its deadline.
func TestComesDown(t *testing.T) {
	x := Timer{"x", 0x54321}
	w := wheelOf(t, 0, x)
	for _, c := range []struct {
		now         uint64
		level, slot int
	}{
		{0, 4, 0}, {0xFFFF, 4, 0}, {0x10000, 4, 0}, {0x4FFFF, 4, 0},
		{0x50000, 3, 4}, {0x53FFF, 3, 4},
		{0x54000, 2, 3}, {0x542FF, 2, 3},
		{0x54300, 1, 2}, {0x5431F, 1, 2},
		{0x54320, 0, 1},
	} {
		tells(t, "Advance to "+strconv.FormatUint(c.now, 16), w.Advance(c.now))
		standsAlone(t, w, x, c.level, c.slot)
	}
	tells(t, "Advance to its deadline", w.Advance(x.At), x)
	empty(t, w, x.At)
}

// P7.2: tick by tick over the edges of all levels, each timer is told at its deadline, once.
func TestTickByTick(t *testing.T) {
	for _, start := range []uint64{0, 0xF, 0xFE, 0xFF0, 0xFF00, 0xFFF00, top - 0x4FF} {
		w := New(start)
		due := map[uint64][]Timer{}
		for i := range uint64(0x400) {
			x := Timer{strconv.Itoa(int(i)), start + 1 + i*i%0x4F0}
			due[x.At] = append(due[x.At], x)
			answers(t, "Put", w.Put(x.Name, x.At), true)
		}
		left := 0x400
		for i := range uint64(0x4FF) {
			now := start + 1 + i
			want := inOrder(due[now])
			tells(t, "Advance to "+strconv.FormatUint(now, 16), w.Advance(now), want...)
			left -= len(want)
			if w.Len() != left || w.Clock() != now {
				t.Fatalf("%d timers at %x, want %d at %x", w.Len(), w.Clock(), left, now)
			}
		}
		empty(t, w, start+0x4FF)
	}
}

// P7.2, P7.3: one leap and many small steps tell the same timers and leave the same slots and the same far list.
func TestLeapAndSteps(t *testing.T) {
	r := rand.New(rand.NewSource(1))
	for round := range 300 {
		start := someTick(r)
		span := uint64(1) << r.Intn(64)
		if start > top-span {
			start = top - span
		}
		var timers []Timer
		for i := range r.Intn(40) {
			timers = append(timers, Timer{strconv.Itoa(i), start + 1 + r.Uint64()%span})
		}
		end := start + r.Uint64()%(span+1)
		leap, steps := wheelOf(t, start, timers...), wheelOf(t, start, timers...)
		want := leap.Advance(end)
		var told []Timer
		for _, now := range stepsTo(r, start, end) {
			told = append(told, steps.Advance(now)...)
		}
		tells(t, "told by steps", told, want...)
		alike(t, steps, leap)
		alike(t, leap, wheelOf(t, end, slices.DeleteFunc(slices.Clone(timers), func(x Timer) bool { return x.At <= end })...))
		if t.Failed() {
			t.Fatalf("round %d: from %x to %x", round, start, end)
		}
	}
}

// stepsTo are ticks that rise to an end, some of them beside levels' edges.
func stepsTo(r *rand.Rand, start, end uint64) []uint64 {
	ticks := []uint64{end}
	for range 30 {
		now := start + r.Uint64()%(end-start+1)
		edge := now &^ (1<<(4*r.Intn(16)) - 1)
		for _, x := range []uint64{now, edge - 1, edge, edge + 1} {
			if x >= start && x <= end {
				ticks = append(ticks, x)
			}
		}
	}
	slices.Sort(ticks)
	return ticks
}

// someTick is a tick with few or many figures, some of them alike.
func someTick(r *rand.Rand) uint64 {
	x := r.Uint64() >> r.Intn(64)
	switch r.Intn(4) {
	case 0:
		return top - x
	case 1:
		return x &^ (1<<(4*r.Intn(16)) - 1)
	case 2:
		return x | (1<<(4*r.Intn(16)) - 1)
	}
	return x
}

// inOrder is the order, said in another way than by the wheel.
func inOrder(timers []Timer) []Timer {
	l := slices.Clone(timers)
	slices.SortFunc(l, func(a, b Timer) int {
		switch {
		case a.At < b.At:
			return -1
		case a.At > b.At:
			return 1
		}
		return slices.Compare([]byte(a.Name), []byte(b.Name))
	})
	return l
}

// model is a wheel that is told in the plainest way: a clock, and what deadline a name has.
type model struct {
	now    uint64
	timers map[string]uint64
}

// all are the model's timers that are wanted, in order.
func (m *model) all(wanted func(at uint64) bool) []Timer {
	var l []Timer
	for name, at := range m.timers {
		if wanted(at) {
			l = append(l, Timer{name, at})
		}
	}
	return inOrder(l)
}

// stands says by the written figures at which place, and in which slot, a deadline stands.
func (m *model) stands(at uint64) (level, slot int) {
	a, b := figures(at), figures(m.now)
	for i := range a {
		if a[i] != b[i] {
			return len(a) - 1 - i, strings.IndexByte("0123456789abcdef", a[i])
		}
	}
	return -1, -1
}

// figures are a tick's sixteen figures to the base 16.
func figures(tick uint64) string {
	s := strconv.FormatUint(tick, 16)
	return strings.Repeat("0", 16-len(s)) + s
}

// put puts a timer, if its deadline is above the clock.
func (m *model) put(name string, at uint64) bool {
	if at <= m.now {
		return false
	}
	m.timers[name] = at
	return true
}

// advance takes what is due.
func (m *model) advance(now uint64) []Timer {
	m.now = max(m.now, now)
	due := m.all(func(at uint64) bool { return at <= m.now })
	maps.DeleteFunc(m.timers, func(_ string, at uint64) bool { return at <= m.now })
	return due
}

// same holds a wheel against the model, without changing it: what it tells, and that it keeps no more.
func same(t *testing.T, w *Wheel, m *model) {
	t.Helper()
	if w.Clock() != m.now || w.Len() != len(m.timers) {
		t.Fatalf("%d timers at %x, want %d at %x", w.Len(), w.Clock(), len(m.timers), m.now)
	}
	kept := len(w.far)
	for level := range 4 {
		for slot := range 16 {
			want := m.all(func(at uint64) bool {
				l, s := m.stands(at)
				return l == level && s == slot
			})
			if got := w.Slot(level, slot); !slices.Equal(got, want) {
				t.Fatalf("at %x, level %d, slot %d: %v, want %v", m.now, level, slot, got, want)
			}
			kept += len(w.near[level][slot])
		}
	}
	far := m.all(func(at uint64) bool {
		l, _ := m.stands(at)
		return l > 3
	})
	if got := w.Far(); !slices.Equal(got, far) {
		t.Fatalf("at %x, far: %v, want %v", m.now, got, far)
	}
	if kept != len(m.timers) {
		t.Fatalf("%d timers are kept, want %d", kept, len(m.timers))
	}
	var want uint64
	all := m.all(func(uint64) bool { return true })
	if len(all) > 0 {
		want = all[0].At
	}
	if at, is := w.Soonest(); at != want || is != (len(all) > 0) {
		t.Fatalf("soonest: %x, %v, want %x", at, is, want)
	}
}

// step does one thing to a wheel and to the model, and holds the answers against each other.
func step(t *testing.T, w *Wheel, m *model, what int, name string, at uint64) {
	t.Helper()
	switch what % 4 {
	case 0, 1:
		if got, want := w.Put(name, at), m.put(name, at); got != want {
			t.Fatalf("Put(%q, %x) at %x: %v, want %v", name, at, m.now, got, want)
		}
	case 2:
		_, there := m.timers[name]
		delete(m.timers, name)
		if got := w.Drop(name); got != there {
			t.Fatalf("Drop(%q): %v, want %v", name, got, there)
		}
	default:
		if got, want := w.Advance(at), m.advance(at); !slices.Equal(got, want) {
			t.Fatalf("Advance(%x): %v, want %v", at, got, want)
		}
	}
}

// someNames are names that begin with one another.
func someNames(n int) []string {
	names := []string{"", "a", "aa", "ab", "b", "ba", "\x00", "\xff"}
	for i := len(names); i < n; i++ {
		names = append(names, "n"+strconv.Itoa(i))
	}
	return names[:n]
}

// P7.1 to P7.3: scripts of chance, held against the model behind each step,
// with few names and many, and with deadlines near the clock and far from it.
func TestScripts(t *testing.T) {
	r := rand.New(rand.NewSource(2))
	for range 60 {
		names := someNames(1 + r.Intn(30))
		start := someTick(r)
		w, m := New(start), &model{start, map[string]uint64{}}
		reach := r.Intn(30)
		for range 120 {
			at := m.now + r.Uint64()>>(63-r.Intn(reach+1))
			if r.Intn(8) == 0 {
				at = someTick(r)
			}
			what := r.Intn(4)
			// Else the clock would run to the end at once.
			if what == 3 && at-m.now > 1<<32 && r.Intn(10) > 0 {
				what = 0
			}
			step(t, w, m, what, names[r.Intn(len(names))], at)
			same(t, w, m)
		}
		tells(t, "Advance to the end", w.Advance(top), m.advance(top)...)
		empty(t, w, top)
	}
}

// P7.2, P7.3: from each of 300 ticks to some above it, a wheel that leaps tells
// what is between, and stands as one that was new there.
func TestManyLeaps(t *testing.T) {
	for _, base := range []uint64{0, 0xFF00, 0xFFF80, top - 299} {
		var timers []Timer
		for i := range uint64(300) {
			timers = append(timers, Timer{strconv.Itoa(int(i)), base + i})
		}
		for from := range 300 {
			for _, to := range []int{from + 1, from + 2, from + 15, from + 16, from + 17, from/16*16 + 15, from/16*16 + 16, 255, 256, 257, 299} {
				if to <= from || to > 299 {
					continue
				}
				w := wheelOf(t, base+uint64(from), timers[from+1:]...)
				tells(t, "Advance", w.Advance(base+uint64(to)), timers[from+1:to+1]...)
				alike(t, w, wheelOf(t, base+uint64(to), timers[to+1:]...))
				if t.Failed() {
					t.Fatalf("from %x + %d to %d", base, from, to)
				}
			}
		}
	}
}

// P2, P7.3: how timers came to be there is not to be seen, nor how often they were asked for.
func TestSameTimersSameAnswers(t *testing.T) {
	r := rand.New(rand.NewSource(3))
	for range 100 {
		now := someTick(r) / 2
		var timers []Timer
		for i := range 1 + r.Intn(30) {
			timers = append(timers, Timer{strconv.Itoa(i), now + 1 + r.Uint64()>>(1+r.Intn(63))})
		}
		plain := wheelOf(t, now, timers...)
		other := New(0)
		for i := range 50 {
			other.Put(strconv.Itoa(i), 1+r.Uint64()>>(r.Intn(63)))
			other.Advance(now / uint64(50-i))
			other.Soonest()
			other.Far()
		}
		for i := range 50 {
			other.Drop(strconv.Itoa(i))
		}
		for _, i := range r.Perm(len(timers)) {
			other.Put(timers[i].Name, timers[i].At)
		}
		alike(t, other, plain)
		end := now + r.Uint64()>>(1+r.Intn(63))
		tells(t, "Advance", other.Advance(end), plain.Advance(end)...)
		alike(t, other, plain)
	}
}

// P7.2: many timers over a long way, put, put again and dropped: each comes once, in order.
func TestMany(t *testing.T) {
	r := rand.New(rand.NewSource(4))
	w, m := New(0), &model{0, map[string]uint64{}}
	for range 20000 {
		name, at := strconv.Itoa(r.Intn(15000)), 1+r.Uint64()>>(24+r.Intn(40))
		answers(t, "Put", w.Put(name, at), m.put(name, at))
		if r.Intn(4) == 0 {
			other := strconv.Itoa(r.Intn(15000))
			delete(m.timers, other)
			w.Drop(other)
		}
	}
	want := m.all(func(uint64) bool { return true })
	var told []Timer
	for n := range 100 {
		now := uint64(1) << (n * 41 / 100)
		told = append(told, w.Advance(now)...)
		if n := len(told); n > 0 && told[n-1].At > now || n < len(want) && want[n].At <= now {
			t.Fatalf("%d were told at %x", n, now)
		}
	}
	told = append(told, w.Advance(top)...)
	if !slices.Equal(told, want) {
		t.Errorf("%d told, want %d, or in another order", len(told), len(want))
	}
	empty(t, w, top)
}

// FuzzWheel takes four bytes for a step: what, whose, how far from the clock (a figure and its place).
func FuzzWheel(f *testing.F) {
	f.Add([]byte("\x00\x01\x05\x00\x00\x02\x03\x01\x03\x00\x04\x00\x03\x00\x01\x02"))
	f.Add([]byte("\x00\x01\x0f\x04\x03\x01\xff\x03\x02\x01\x00\x00\x02\x01\x00\x00"))
	f.Fuzz(func(t *testing.T, script []byte) {
		names := someNames(16)
		w, m := New(0xFF), &model{0xFF, map[string]uint64{}}
		for ; len(script) >= 4; script = script[4:] {
			at := m.now + uint64(script[2])<<(4*(script[3]%16)) - uint64(script[3]/16)
			step(t, w, m, int(script[0]), names[int(script[1])%len(names)], at)
			same(t, w, m)
		}
		tells(t, "Advance to the end", w.Advance(top), m.advance(top)...)
		empty(t, w, top)
	})
}
