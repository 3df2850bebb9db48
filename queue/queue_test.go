package queue

import (
	"math"
	"slices"
	"strconv"
	"strings"
	"testing"
)

const top = math.MaxUint64

// String quotes the name, as it may be bytes that are no text.
func (e Entry) String() string {
	return strconv.Quote(e.Name) + " at " + strconv.FormatUint(e.At, 10)
}

// queueOf puts entries one behind another.
func queueOf(entries ...Entry) *Queue {
	q := New()
	for _, e := range entries {
		q.Put(e.Name, e.At)
	}
	return q
}

// popAll takes as many entries as there should be, and one more if it comes, one by one from the front.
func popAll(q *Queue) []Entry {
	var popped []Entry
	for range q.Len() + 1 {
		if e, is := q.Pop(); is {
			popped = append(popped, e)
		}
	}
	return popped
}

// dropped is a queue some of whose names were dropped again.
func dropped(q *Queue, names ...string) *Queue {
	for _, name := range names {
		q.Drop(name)
	}
	return q
}

// answers says what a call with a bool answered, and what it should have.
func answers(t *testing.T, what string, got, want bool) {
	t.Helper()
	if got != want {
		t.Errorf("%s: %v, want %v", what, got, want)
	}
}

// stands says that a name is there with this deadline.
func stands(t *testing.T, q *Queue, name string, at uint64) {
	t.Helper()
	if got, is := q.At(name); got != at || !is {
		t.Errorf("At(%q) = %d, %v, want %d", name, got, is, at)
	}
}

// lacks says that a name is not there, and that asking changes nothing.
func lacks(t *testing.T, q *Queue, name string) {
	t.Helper()
	n := q.Len()
	if at, is := q.At(name); at != 0 || is {
		t.Errorf("At(%q), not there: %d, %v", name, at, is)
	}
	answers(t, "Drop of what is not there", q.Drop(name), false)
	if q.Len() != n {
		t.Errorf("%d entries, and %d ahead of asking for %q", q.Len(), n, name)
	}
}

// holds says that a queue's entries are just these, in this order; it takes them.
func holds(t *testing.T, q *Queue, entries ...Entry) {
	t.Helper()
	if q.Len() != len(entries) {
		t.Errorf("%d entries, want %d", q.Len(), len(entries))
	}
	for _, e := range entries {
		stands(t, q, e.Name, e.At)
	}
	for i, want := range entries {
		front, is := q.Front()
		if front != want || !is {
			t.Errorf("Front at %d: %v, %v, want %v", i, front, is, want)
		}
		if e, is := q.Pop(); e != want || !is {
			t.Errorf("Pop at %d: %v, %v, want %v", i, e, is, want)
		}
		lacks(t, q, want.Name)
		if left := len(entries) - i - 1; q.Len() != left {
			t.Errorf("%d entries behind Pop at %d, want %d", q.Len(), i, left)
		}
	}
	empty(t, q)
}

// empty says that a queue has nothing, whatever is asked.
func empty(t *testing.T, q *Queue) {
	t.Helper()
	if e, is := q.Front(); e != (Entry{}) || is {
		t.Errorf("Front of nothing: %v, %v", e, is)
	}
	if e, is := q.Pop(); e != (Entry{}) || is {
		t.Errorf("Pop of nothing: %v, %v", e, is)
	}
	for _, now := range []uint64{0, 1, top} {
		if l := q.Due(now); len(l) != 0 {
			t.Errorf("Due(%d) of nothing: %v", now, l)
		}
	}
	for _, name := range []string{"", "a", "\x00"} {
		if at, is := q.At(name); at != 0 || is {
			t.Errorf("At(%q) of nothing: %d, %v", name, at, is)
		}
		answers(t, "Drop of nothing", q.Drop(name), false)
	}
	if q.Len() != 0 {
		t.Errorf("nothing is %d entries", q.Len())
	}
}

// P6.1: a nil queue has nothing, and takes nothing.
func TestNil(t *testing.T) {
	var q *Queue
	empty(t, q)
	for _, name := range []string{"", "a"} {
		for _, at := range []uint64{0, 5, top} {
			answers(t, "Put", q.Put(name, at), false)
			answers(t, "Put again", q.Put(name, at), false)
		}
	}
	empty(t, q)
}

// P6.1: an empty queue has nothing, be it new or empty again.
func TestEmpty(t *testing.T) {
	if New() == nil {
		t.Fatal("New is nil")
	}
	abc := []Entry{{"a", 1}, {"b", 2}, {"c", 3}}
	empty(t, New())
	empty(t, dropped(queueOf(abc...), "a", "b", "c"))
	empty(t, dropped(queueOf(abc...), "c", "b", "a"))
	popped := queueOf(abc...)
	popAll(popped)
	empty(t, popped)
	due := queueOf(abc...)
	due.Due(3)
	empty(t, due)
	for _, q := range []*Queue{popped, due} {
		answers(t, "Put into what is empty again", q.Put("b", 7), false)
		holds(t, q, Entry{"b", 7})
	}
}

// P6.1: two queues have their own entries.
func TestApart(t *testing.T) {
	a, b := New(), New()
	a.Put("x", 1)
	empty(t, b)
	answers(t, "Put into the other", b.Put("x", 2), false)
	answers(t, "Drop from the other", b.Drop("x"), true)
	holds(t, a, Entry{"x", 1})
}

// P6.1: one entry, whatever its name and its deadline.
func TestOne(t *testing.T) {
	for _, name := range []string{"", "a", "\x00", "\xff\xfe", "é", strings.Repeat("n", 5000)} {
		for _, at := range []uint64{0, 1, 1 << 63, top - 1, top} {
			q := New()
			answers(t, "Put", q.Put(name, at), false)
			holds(t, q, Entry{name, at})

			q.Put(name, at)
			answers(t, "Drop", q.Drop(name), true)
			answers(t, "Drop again", q.Drop(name), false)
			empty(t, q)

			q.Put(name, at)
			if l := q.Due(at); !slices.Equal(l, []Entry{{name, at}}) {
				t.Errorf("Due(%d) = %v", at, l)
			}
			empty(t, q)

			q.Put(name, at)
			if at > 0 && len(q.Due(at-1)) != 0 {
				t.Errorf("%d is due at %d", at, at-1)
			}
			holds(t, q, Entry{name, at})
		}
	}
}

// P6.1: a name that is put again has the new deadline, and stands once.
func TestPutAgain(t *testing.T) {
	others := []Entry{{"a", 10}, {"c", 20}, {"e", 30}}
	for _, from := range []uint64{0, 5, 10, 15, 20, 25, 30, 35, top} {
		for _, to := range []uint64{0, 5, 10, 15, 20, 25, 30, 35, top} {
			for _, name := range []string{"", "b", "d", "f"} {
				q := queueOf(others...)
				answers(t, "Put", q.Put(name, from), false)
				answers(t, "Put again", q.Put(name, to), true)
				if q.Len() != 4 {
					t.Errorf("%d entries, want 4", q.Len())
				}
				stands(t, q, name, to)
				holds(t, q, sorted(append(slices.Clone(others), Entry{name, to}))...)
			}
		}
	}
}

// P6.1: each of seven is put again, behind all, ahead of all, and as it is.
func TestPutEachAgain(t *testing.T) {
	entries := []Entry{{"a", 10}, {"b", 20}, {"c", 30}, {"d", 40}, {"e", 50}, {"f", 60}, {"g", 70}}
	for i := range entries {
		for _, at := range []uint64{0, 15, 35, 40, 55, top} {
			for _, start := range []func(...Entry) *Queue{queueOf, queueBackward} {
				q := start(entries...)
				answers(t, "Put the same", q.Put(entries[i].Name, entries[i].At), true)
				answers(t, "Put another", q.Put(entries[i].Name, at), true)
				want := slices.Clone(entries)
				want[i].At = at
				holds(t, q, sorted(want)...)
			}
		}
	}
}

// queueBackward puts the last entry first.
func queueBackward(entries ...Entry) *Queue {
	q := New()
	for _, e := range slices.Backward(entries) {
		q.Put(e.Name, e.At)
	}
	return q
}

// sorted is the order, said in another way than by the heap.
func sorted(entries []Entry) []Entry {
	l := slices.Clone(entries)
	slices.SortFunc(l, func(a, b Entry) int {
		switch {
		case a.At < b.At:
			return -1
		case a.At > b.At:
			return 1
		}
		return slices.Compare([]byte(a.Name), []byte(b.Name))
	})
	return l
}

// P6.1: an entry is dropped from the front, the middle and the end, once; the others stay.
func TestDrop(t *testing.T) {
	entries := []Entry{{"g", 1}, {"f", 1}, {"e", 2}, {"d", 3}, {"c", 3}, {"b", 3}, {"a", 9}, {"", 9}, {"z", top}}
	for i, gone := range entries {
		for _, start := range []func(...Entry) *Queue{queueOf, queueBackward} {
			q := start(entries...)
			answers(t, "Drop", q.Drop(gone.Name), true)
			answers(t, "Drop again", q.Drop(gone.Name), false)
			lacks(t, q, gone.Name)
			lacks(t, q, "never there")
			rest := slices.Delete(slices.Clone(entries), i, i+1)
			holds(t, q, sorted(rest)...)
		}
	}
}

// P6.1: the last one of a heap that fills a gap may have to rise there, not
// only to sink: it comes from below another one.
func TestDropRises(t *testing.T) {
	entries := []Entry{{"a", 1}, {"b", 50}, {"c", 2}, {"d", 60}, {"e", 70}, {"f", 3}, {"g", 4}, {"h", 80}, {"i", 90}, {"j", 75}, {"k", 76}, {"l", 5}}
	for i, gone := range entries {
		q := queueOf(entries...)
		q.Drop(gone.Name)
		holds(t, q, sorted(slices.Delete(slices.Clone(entries), i, i+1))...)
	}
}

// P6.1: what was dropped or popped is new when it is put again.
func TestBackAgain(t *testing.T) {
	q := queueOf(Entry{"a", 1}, Entry{"b", 2}, Entry{"c", 3})
	q.Drop("b")
	answers(t, "Put of what was dropped", q.Put("b", 0), false)
	q.Pop()
	lacks(t, q, "b")
	answers(t, "Put of what was popped", q.Put("b", 4), false)
	q.Due(1)
	lacks(t, q, "a")
	answers(t, "Put of what was due", q.Put("a", 4), false)
	holds(t, q, Entry{"c", 3}, Entry{"a", 4}, Entry{"b", 4})
}

// P6.1: of equal deadlines the names decide, byte by byte, a shorter one ahead of what it begins.
func TestNamesDecide(t *testing.T) {
	names := []string{"", "\x00", "\x00\x00", "\x00a", "A", "B", "a", "a\x00", "aa", "aaa", "ab", "b", "ba", "z", "\x7f", "\x80", "é", "\xff", "\xff\x00", "\xff\xff"}
	for _, at := range []uint64{0, 7, top} {
		entries := make([]Entry, len(names))
		for i, name := range names {
			entries[i] = Entry{name, at}
		}
		holds(t, queueOf(entries...), entries...)
		holds(t, queueBackward(entries...), entries...)
		if l := queueBackward(entries...).Due(at); !slices.Equal(l, entries) {
			t.Errorf("Due(%d) = %v", at, l)
		}
	}
}

// P6.1: deadlines decide ahead of names, as numbers without a sign.
func TestDeadlinesDecide(t *testing.T) {
	entries := []Entry{{"z", 0}, {"y", 1}, {"x", 2}, {"w", 10}, {"v", 1<<32 - 1}, {"u", 1 << 32}, {"t", 1<<63 - 1}, {"s", 1 << 63}, {"r", 1<<63 + 1}, {"q", top - 1}, {"p", top}}
	holds(t, queueOf(entries...), entries...)
	holds(t, queueBackward(entries...), entries...)
}

// P6.1: Front tells and leaves, Pop takes.
func TestFrontAndPop(t *testing.T) {
	q := queueOf(Entry{"b", 5}, Entry{"a", 5}, Entry{"c", 4})
	for range 3 {
		if e, is := q.Front(); e != (Entry{"c", 4}) || !is || q.Len() != 3 {
			t.Errorf("Front: %v, %v, of %d", e, is, q.Len())
		}
	}
	if e, is := q.Pop(); e != (Entry{"c", 4}) || !is || q.Len() != 2 {
		t.Errorf("Pop: %v, %v, %d left", e, is, q.Len())
	}
	lacks(t, q, "c")
	if e, is := q.Front(); e != (Entry{"a", 5}) || !is {
		t.Errorf("Front: %v, %v", e, is)
	}
}

// P6.1: Due ahead of the first deadline, at one, between two, behind all, and at the greatest tick.
func TestDue(t *testing.T) {
	entries := []Entry{{"c", 3}, {"d", 3}, {"a", 5}, {"", 8}, {"b", 8}, {"e", top - 1}, {"f", top}, {"g", top}}
	cases := []struct {
		now uint64
		due int
	}{
		{0, 0}, {2, 0}, {3, 2}, {4, 2}, {5, 3}, {7, 3}, {8, 5}, {9, 5}, {1 << 63, 5}, {top - 2, 5}, {top - 1, 6}, {top, 8},
	}
	for _, c := range cases {
		q := queueBackward(entries...)
		if l := q.Due(c.now); !slices.Equal(l, entries[:c.due]) {
			t.Errorf("Due(%d) = %v, want %v", c.now, l, entries[:c.due])
		}
		if l := q.Due(c.now); len(l) != 0 {
			t.Errorf("Due(%d) again = %v", c.now, l)
		}
		for _, e := range entries[:c.due] {
			lacks(t, q, e.Name)
		}
		holds(t, q, entries[c.due:]...)
	}
}

// P6.1: a deadline of 0 is due at 0, and a tick may be asked that is below an earlier one.
func TestDueAtNought(t *testing.T) {
	q := queueOf(Entry{"b", 0}, Entry{"c", 1}, Entry{"a", 0})
	if l := q.Due(0); !slices.Equal(l, []Entry{{"a", 0}, {"b", 0}}) {
		t.Errorf("Due(0) = %v", l)
	}
	q.Due(9)
	q.Put("d", 5)
	q.Put("e", 2)
	if l := q.Due(3); !slices.Equal(l, []Entry{{"e", 2}}) {
		t.Errorf("Due(3) behind Due(9) = %v", l)
	}
	holds(t, q, Entry{"d", 5})
}

// Rule 4: what Due answers is new memory, its spare capacity too.
func TestHandedOut(t *testing.T) {
	q := queueOf(Entry{"a", 1}, Entry{"b", 1}, Entry{"c", 1}, Entry{"d", 2}, Entry{"e", 2}, Entry{"f", 3})
	first := q.Due(1)
	second := q.Due(2)
	want := []Entry{{"a", 1}, {"b", 1}, {"c", 1}}
	if !slices.Equal(first, want) {
		t.Errorf("handed out, now %v", first)
	}
	clear(second[:cap(second)])
	for i := range uint64(9) {
		q.Put(string(rune('g'+i)), i)
	}
	if !slices.Equal(first, want) {
		t.Errorf("handed out, now %v", first)
	}
	clear(first[:cap(first)])
	holds(t, q, Entry{"g", 0}, Entry{"h", 1}, Entry{"i", 2}, Entry{"f", 3}, Entry{"j", 3}, Entry{"k", 4}, Entry{"l", 5}, Entry{"m", 6}, Entry{"n", 7}, Entry{"o", 8})
}
