package timers

import (
	"cmp"
	"maps"
	"math/rand"
	"slices"
	"strconv"
	"testing"

	"belfry/api"
)

// model is a table told in the plainest way: its clock, and its timers by their names.
type model struct {
	now    uint64
	timers map[string]api.Timer
}

// modelOf has timers.
func modelOf(now uint64, timers ...api.Timer) *model {
	m := &model{now, map[string]api.Timer{}}
	for _, t := range timers {
		m.timers[t.Name] = t
	}
	return m
}

// byDeadline is the order of what is due.
func byDeadline(a, b api.Timer) int {
	return cmp.Or(cmp.Compare(a.At, b.At), cmp.Compare(a.Name, b.Name))
}

// byName is the order of all.
func byName(a, b api.Timer) int {
	return cmp.Compare(a.Name, b.Name)
}

// those are the timers of which something holds, by their deadlines.
func (m *model) those(hold func(api.Timer) bool) []api.Timer {
	l := slices.SortedFunc(maps.Values(m.timers), byDeadline)
	return slices.DeleteFunc(l, func(t api.Timer) bool { return !hold(t) })
}

func (m *model) isDue(t api.Timer) bool { return t.At <= m.now }
func (m *model) waits(t api.Timer) bool { return t.At > m.now }

// advance moves the clock.
func (m *model) advance(now uint64) []string {
	var names []string
	for _, t := range m.those(m.waits) {
		if t.At <= now {
			names = append(names, t.Name)
		}
	}
	m.now = max(m.now, now)
	return names
}

// holds holds a table against the model, without changing it.
func (m *model) holds(t *testing.T, x *Table) {
	t.Helper()
	if x.Clock() != m.now {
		t.Errorf("clock %d, want %d", x.Clock(), m.now)
	}
	tells(t, "All", x.All(), slices.SortedFunc(maps.Values(m.timers), byName)...)
	tells(t, "Due", x.Due(), m.those(m.isDue)...)
	var first uint64
	if l := m.those(m.waits); len(l) > 0 {
		first = l[0].At
	}
	soonest(t, x, first)
	for _, y := range m.timers {
		gets(t, x, y)
	}
	m.stands(t, x)
}

// stands looks into the table: each timer stands in the wheel or in the queue, and nothing else does.
func (m *model) stands(t *testing.T, x *Table) {
	t.Helper()
	due := len(m.those(m.isDue))
	if x.due.Len() != due || x.armed.Len() != len(m.timers)-due || len(x.timers) != len(m.timers) {
		t.Errorf("%d in the queue, %d in the wheel, %d in the map; want %d due of %d", x.due.Len(), x.armed.Len(), len(x.timers), due, len(m.timers))
	}
}

// copied is the same model, apart.
func (m *model) copied() *model {
	return &model{m.now, maps.Clone(m.timers)}
}

// chance makes what scripts do.
type chance struct {
	*rand.Rand
	names []string
	low   uint64 // of all deadlines and clocks
	span  int64  // of them
}

func (r chance) tick() uint64 { return r.low + uint64(r.Int63n(r.span)) }
func (r chance) name() string { return r.names[r.Intn(len(r.names))] }

// timer is one that is right, if its deadline is.
func (r chance) timer() api.Timer {
	y := api.Timer{Name: r.name(), Version: 1 + r.Intn(5), At: r.tick(), Every: uint64(r.Intn(8))}
	for range r.Intn(api.MaxSteps + 1) {
		y.Do = append(y.Do, api.Step{Kind: api.Add, Key: r.name(), N: int64(r.Intn(9))})
	}
	return y
}

// spoilt is a timer with something wrong.
func (r chance) spoilt() api.Timer {
	y := r.timer()
	spoil := slices.Sorted(maps.Keys(spoils()))
	spoils()[spoil[r.Intn(len(spoil))]](&y)
	return y
}

// step does one thing to a table and to the model, and holds the answers against each other.
func (r chance) step(t *testing.T, x *Table, m *model) {
	t.Helper()
	switch r.Intn(10) {
	case 0, 1, 2, 3:
		y := r.timer()
		want := api.OK
		if y.At > api.MaxTick {
			want = api.ErrTimer
		} else {
			m.timers[y.Name] = apart(y)
		}
		if e := x.Set(y); e != want {
			t.Fatalf("Set(%v): %v, want %v", y, e, want)
		}
		for i := range y.Do {
			y.Do[i].N = -1
		}
	case 4:
		y := r.spoilt()
		if e := x.Set(y); e != api.ErrTimer {
			t.Fatalf("Set(%v): %v", y, e)
		}
	case 5, 6:
		name := r.name()
		_, want := m.timers[name]
		delete(m.timers, name)
		if is := x.Drop(name); is != want {
			t.Fatalf("Drop(%q): %v", name, is)
		}
	case 7:
		r.fire(t, x, m)
	default:
		now := m.now + uint64(r.Intn(20))
		if now < m.now || r.Intn(5) == 0 {
			now = r.tick()
		}
		advances(t, x, now, m.advance(now)...)
	}
}

// fire does to the first timer that is due what becomes of one that has fired.
func (r chance) fire(t *testing.T, x *Table, m *model) {
	t.Helper()
	l := m.those(m.isDue)
	if len(l) == 0 {
		return
	}
	y, is := After(x.Due()[0], x.Clock())
	if !is {
		x.Drop(l[0].Name)
		delete(m.timers, l[0].Name)
		return
	}
	sets(t, x, y)
	if y.At <= m.now || (y.At-l[0].At)%y.Every != 0 || y.At-y.Every > m.now {
		t.Fatalf("%v, behind %d: %v", l[0], m.now, y)
	}
	m.timers[y.Name] = y
}

// someNames are n names, some of which begin with one another.
func someNames(n int) []string {
	names := []string{"a", "aa", "ab", "b", "\x00", "\xff", long(api.MaxName), long(api.MaxName - 1)}
	for i := len(names); i < n; i++ {
		names = append(names, "n"+strconv.Itoa(i))
	}
	return names[:n]
}

// spans are where scripts of chance play: near 0, around the wheel's levels,
// around MaxTick, and at the end of all ticks.
func spans() []chance {
	return []chance{
		{low: 0, span: 12}, {low: 0, span: 70}, {low: 0, span: 5000}, {low: 0, span: 1 << 20}, {low: 65000, span: 1200},
		{low: 0, span: 1<<62 + 1}, {low: api.MaxTick - 300, span: 301}, {low: api.MaxTick - 20, span: 40}, {low: 1<<61 - 50, span: 100},
	}
}

// P10.1, P10.2, P10.3: scripts of chance, held against the model behind each step; copies too.
func TestScripts(t *testing.T) {
	source := rand.New(rand.NewSource(10))
	for round := range 360 {
		r := spans()[round%len(spans())]
		r.Rand, r.names = source, someNames(1+source.Intn(50))
		now := r.low + uint64(r.Int63n(min(r.span, 40)))
		x, m := New(now), modelOf(now)
		old, was := x, m
		for i := range 120 {
			if i%40 == 20 {
				old, was = x, m
				x, m = x.Copy(), m.copied()
			}
			r.step(t, x, m)
			m.holds(t, x)
			if i%10 == 0 {
				was.holds(t, old)
			}
			if t.Failed() {
				t.Fatalf("round %d, step %d", round, i)
			}
		}
		was.holds(t, old)
		advances(t, x, top, m.advance(top)...)
		m.holds(t, x)
	}
}

// P2: the same calls have the same answers, in whatever order the timers were set.
func TestSameCallsSameAnswers(t *testing.T) {
	source := rand.New(rand.NewSource(11))
	for round := range 40 {
		r := spans()[round%len(spans())]
		r.Rand, r.names = source, someNames(50)
		m := modelOf(r.low)
		for range 60 {
			if y := r.timer(); y.At <= api.MaxTick {
				m.timers[y.Name] = y
			}
		}
		l := slices.SortedFunc(maps.Values(m.timers), byName)
		for range 5 {
			source.Shuffle(len(l), func(i, j int) { l[i], l[j] = l[j], l[i] })
			x, other := tableOf(t, r.low, l...), m.copied()
			other.holds(t, x)
			for now := r.low; now < top-uint64(r.span); now += uint64(r.span)/3 + 1 {
				advances(t, x, now, other.advance(now)...)
				other.holds(t, x)
				if now > r.low+uint64(r.span) {
					break
				}
			}
		}
	}
}

// P10.1, P10.2: more timers than any shard has, due tick by tick.
func TestMany(t *testing.T) {
	r := rand.New(rand.NewSource(12))
	x, m := New(0), modelOf(0)
	for i := range 5000 {
		y := timer("n"+strconv.Itoa(i), uint64(r.Intn(400)), 0)
		m.timers[y.Name] = y
		sets(t, x, y)
	}
	m.holds(t, x)
	for now := range uint64(401) {
		advances(t, x, now, m.advance(now)...)
	}
	m.holds(t, x)
	for name := range m.timers {
		if !x.Drop(name) {
			t.Fatalf("%q is not there", name)
		}
	}
	holds(t, x, 400)
}

// FuzzTable: P10.1, P10.2 and P1 for scripts made of bytes: four bytes a call.
func FuzzTable(f *testing.F) {
	f.Add(uint64(0), []byte("\x00\x01\x05\x03\x03\x00\x09\x00\x02\x01\x00\x00"))
	f.Add(uint64(api.MaxTick-3), []byte("\x00\x01\x01\x01\x03\x00\x02\x00\x04\x00\x00\x00\x05\x00\x00\x00"))
	f.Add(uint64(top), []byte("\x00\x01\x00\x00\x01\x01\x00\x00\x03\x00\x00\x00"))
	f.Fuzz(func(t *testing.T, now uint64, script []byte) {
		x, m := New(now), modelOf(now)
		for b := range slices.Chunk(script, 4) {
			if len(b) < 4 {
				break
			}
			name, n := string(rune('a'+b[1]%6)), uint64(b[2])<<(b[3]%56)
			switch b[0] % 6 {
			case 0, 1:
				y := api.Timer{Name: name, Version: 1, At: now + n, Every: uint64(b[3])}
				if b[0]%6 == 1 {
					y.At = now - n
				}
				if e := x.Set(y); (e == api.OK) != (y.At <= api.MaxTick) {
					t.Fatalf("Set(%v): %v", y, e)
				} else if e == api.OK {
					m.timers[name] = y
				}
			case 2:
				_, want := m.timers[name]
				delete(m.timers, name)
				if x.Drop(name) != want {
					t.Fatalf("Drop(%q): %v", name, !want)
				}
			case 3:
				to := m.now + n
				advances(t, x, to, m.advance(to)...)
			case 4:
				chance{}.fire(t, x, m)
			default:
				x, m = x.Copy(), m.copied()
			}
			m.holds(t, x)
		}
	})
}
