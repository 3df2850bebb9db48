package queue

import (
	"maps"
	"math/rand"
	"slices"
	"strconv"
	"testing"
)

// model is a queue that is told in the plainest way: what deadline a name has.
type model map[string]uint64

// inOrder are all entries.
func (m model) inOrder() []Entry {
	var l []Entry
	for name, at := range m {
		l = append(l, Entry{name, at})
	}
	return sorted(l)
}

// first is the first entry.
func (m model) first() (Entry, bool) {
	l := m.inOrder()
	if len(l) == 0 {
		return Entry{}, false
	}
	return l[0], true
}

// due takes what is due.
func (m model) due(now uint64) []Entry {
	l := slices.DeleteFunc(m.inOrder(), func(e Entry) bool { return e.At > now })
	maps.DeleteFunc(m, func(_ string, at uint64) bool { return at <= now })
	return l
}

// same holds a queue against the model, without changing it; and its heap's
// places against the entries that stand there.
func same(t *testing.T, q *Queue, m model, names []string) {
	t.Helper()
	if q.Len() != len(m) || len(q.line.places) != len(m) {
		t.Fatalf("%d entries, %d places, want %d", q.Len(), len(q.line.places), len(m))
	}
	front, is := q.Front()
	if want, wantIs := m.first(); front != want || is != wantIs {
		t.Fatalf("Front: %v, %v, want %v, %v", front, is, want, wantIs)
	}
	for _, name := range names {
		want, wantIs := m[name]
		if at, is := q.At(name); at != want || is != wantIs {
			t.Fatalf("At(%q) = %d, %v, want %d, %v", name, at, is, want, wantIs)
		}
	}
	for i, e := range q.line.entries {
		if place, is := q.line.places[e.Name]; place != i || !is {
			t.Fatalf("%q stands at %d, and is thought to be at %d, %v", e.Name, i, place, is)
		}
	}
}

// step does one thing to a queue and to the model, and holds the answers against each other.
func step(t *testing.T, q *Queue, m model, what int, name string, at uint64) {
	t.Helper()
	_, there := m[name]
	switch what % 8 {
	case 0, 1, 2, 3:
		m[name] = at
		answers(t, "Put", q.Put(name, at), there)
	case 4, 5:
		delete(m, name)
		answers(t, "Drop", q.Drop(name), there)
	case 6:
		want, wantIs := m.first()
		delete(m, want.Name)
		if e, is := q.Pop(); e != want || is != wantIs {
			t.Fatalf("Pop: %v, %v, want %v, %v", e, is, want, wantIs)
		}
	default:
		want := m.due(at)
		if l := q.Due(at); !slices.Equal(l, want) {
			t.Fatalf("Due(%d) = %v, want %v", at, l, want)
		}
	}
}

// someNames are names that begin with one another.
func someNames(n int) []string {
	names := []string{"", "a", "aa", "ab", "b", "ba", "\x00", "\xff"}
	for i := len(names); i < n; i++ {
		names = append(names, "n"+strconv.Itoa(i))
	}
	return names[:n]
}

// P6.1, P6.2: scripts of chance, held against the model behind each step, with
// few names and many, and with few deadlines and many.
func TestScripts(t *testing.T) {
	r := rand.New(rand.NewSource(1))
	for round := range 200 {
		names := someNames(1 + r.Intn(40))
		span := uint64(1) << r.Intn(64)
		q, m := New(), model{}
		for range 150 {
			at := r.Uint64() % span
			if r.Intn(4) == 0 {
				at = top - at
			}
			what := r.Intn(8)
			// Else what is due would never leave much.
			if what == 7 && r.Intn(3) > 0 {
				what = 0
			}
			step(t, q, m, what, names[r.Intn(len(names))], at)
			same(t, q, m, names)
		}
		if got, want := popAll(q), m.inOrder(); !slices.Equal(got, want) {
			t.Fatalf("round %d: popped %v, want %v", round, got, want)
		}
		empty(t, q)
	}
}

// orders goes through all orders of a list.
func orders(l []Entry, from int, visit func([]Entry)) {
	if from == len(l) {
		visit(l)
		return
	}
	for i := from; i < len(l); i++ {
		l[from], l[i] = l[i], l[from]
		orders(l, from+1, visit)
		l[from], l[i] = l[i], l[from]
	}
}

// P6.2: seven entries, some of equal deadlines, come out the same in whatever order they went in.
func TestAnyOrder(t *testing.T) {
	want := []Entry{{"c", 0}, {"", 4}, {"a", 4}, {"aa", 4}, {"b", 5}, {"d", top}, {"e", top}}
	orders(slices.Clone(want), 0, func(l []Entry) {
		if got := popAll(queueOf(l...)); !slices.Equal(got, want) {
			t.Fatalf("put %v, popped %v", l, got)
		}
		if got := queueOf(l...).Due(top); !slices.Equal(got, want) {
			t.Fatalf("put %v, due %v", l, got)
		}
	})
}

// P6.2: in whatever order six entries went in, each of them may be dropped, and the others rise.
func TestAnyOrderAndDrop(t *testing.T) {
	want := []Entry{{"c", 0}, {"", 4}, {"a", 4}, {"b", 5}, {"d", 6}, {"e", top}}
	orders(slices.Clone(want), 0, func(l []Entry) {
		for i, gone := range want {
			q := queueOf(l...)
			q.Drop(gone.Name)
			if got := popAll(q); !slices.Equal(got, slices.Delete(slices.Clone(want), i, i+1)) {
				t.Fatalf("put %v, dropped %q, popped %v", l, gone.Name, got)
			}
		}
	})
}

// P6.2: many entries, put, put again and dropped, rise; none is lost, and none comes twice.
func TestMany(t *testing.T) {
	r := rand.New(rand.NewSource(2))
	q, m := New(), model{}
	for range 30000 {
		name := strconv.Itoa(r.Intn(20000))
		m[name] = uint64(r.Intn(5000))
		q.Put(name, m[name])
		other := strconv.Itoa(r.Intn(20000))
		if r.Intn(3) == 0 {
			delete(m, other)
			q.Drop(other)
		}
	}
	want := m.inOrder()
	half := len(want) / 2
	due := q.Due(want[half].At)
	if popped := append(due, popAll(q)...); !slices.Equal(popped, want) {
		t.Errorf("%d popped, want %d, or in another order", len(popped), len(want))
	}
	if len(due) <= half || due[len(due)-1].At != want[half].At {
		t.Errorf("%d were due at %d", len(due), want[half].At)
	}
	empty(t, q)
}

// P6.2: what is put while others are popped comes at its turn, once.
func TestPopAndPut(t *testing.T) {
	r := rand.New(rand.NewSource(3))
	q := New()
	for i := range 100 {
		q.Put("start"+strconv.Itoa(i), uint64(r.Intn(50)))
	}
	seen := map[string]int{}
	before := Entry{}
	for i := range 1000 {
		e, is := q.Pop()
		if !is || seen[e.Name] != 0 || sorted([]Entry{before, e})[1] != e {
			t.Fatalf("%v, %v behind %v, seen %d times", e, is, before, seen[e.Name])
		}
		seen[e.Name]++
		before = e
		if i < 900 {
			q.Put("more"+strconv.Itoa(i), e.At+1+uint64(r.Intn(50)))
		}
	}
	empty(t, q)
	if len(seen) != 1000 {
		t.Errorf("%d came", len(seen))
	}
}

// P2: how the entries came to be there is not to be seen, nor how often they were asked for.
func TestSameEntriesSameAnswers(t *testing.T) {
	r := rand.New(rand.NewSource(4))
	for range 200 {
		m := model{}
		for range 1 + r.Intn(30) {
			m[strconv.Itoa(r.Intn(100))] = uint64(r.Intn(10))
		}
		plain := queueOf(m.inOrder()...)
		other := New()
		for _, i := range r.Perm(100) {
			other.Put(strconv.Itoa(i), uint64(r.Intn(10)))
		}
		for i := range 100 {
			name := strconv.Itoa(i)
			if at, is := m[name]; is {
				other.Put(name, at)
				other.Front()
				other.At(name)
			} else {
				other.Drop(name)
			}
		}
		now := uint64(r.Intn(10))
		a, b := plain.Due(now), other.Due(now)
		if !slices.Equal(a, b) || plain.Len() != other.Len() {
			t.Fatalf("due at %d: %v and %v", now, a, b)
		}
		if a, b := popAll(plain), popAll(other); !slices.Equal(a, b) {
			t.Fatalf("popped: %v and %v", a, b)
		}
	}
}

// A name that left is not kept in memory: places behind the list's length are empty.
func TestNothingKept(t *testing.T) {
	q := queueOf(Entry{"a", 1}, Entry{"b", 2}, Entry{"c", 3}, Entry{"d", 4}, Entry{"e", 5})
	q.Drop("b")
	q.Pop()
	q.Due(3)
	behind := q.line.entries[len(q.line.entries):cap(q.line.entries)]
	for _, e := range behind {
		if e != (Entry{}) {
			t.Errorf("%v is kept", e)
		}
	}
}

// FuzzQueue takes three bytes for a step: what, whose, when.
func FuzzQueue(f *testing.F) {
	f.Add([]byte("\x00\x01\x05\x00\x02\x03\x06\x00\x00\x07\x00\x04"))
	f.Add([]byte("\x00\x01\xff\x00\x01\x00\x04\x01\x00\x04\x01\x00"))
	f.Fuzz(func(t *testing.T, script []byte) {
		names := someNames(16)
		q, m := New(), model{}
		for ; len(script) >= 3; script = script[3:] {
			at := uint64(script[2])
			if at >= 128 {
				at = top - (255 - at)
			}
			step(t, q, m, int(script[0]), names[int(script[1])%len(names)], at)
			same(t, q, m, names)
		}
		if got, want := popAll(q), m.inOrder(); !slices.Equal(got, want) {
			t.Fatalf("popped %v, want %v", got, want)
		}
	})
}
