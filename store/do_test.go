package store

import (
	"slices"
	"testing"

	"belfry/api"
	"belfry/quota"
)

// P12.1, P1: a new store has its clock and version 1, and nothing else.
func TestNew(t *testing.T) {
	for _, now := range []uint64{0, 1, 255, api.MaxTick, api.MaxTick + 1, top} {
		s := New(now)
		has(t, s, 1, nil)
		newModel(now).holds(t, s)
		for _, key := range []string{"", "k", long(16), long(5000)} {
			if value, is := s.Get(key); value != "" || is {
				t.Errorf("Get(%q): %q, %v", key, value, is)
			}
		}
		for _, l := range [][]api.Change{nil, {}} {
			does(t, s, l)
		}
		has(t, s, 1, nil)
	}
}

// P12.1: each change alone, where there is something and where there is nothing.
func TestEachChange(t *testing.T) {
	x, y := timer("t", 4, 9, 2), timer("t", 2, 90, 0)
	s := New(3)
	does(t, s, changes(noKey("k")))
	does(t, s, changes(noTimer("t")))
	has(t, s, 1, nil)
	does(t, s, changes(hasKey("k", "1")), noKey("k"))
	has(t, s, 1, []string{"k", "1"})
	does(t, s, changes(hasKey("k", "22")), hasKey("k", "1"))
	does(t, s, changes(hasKey("k", "22")), hasKey("k", "22"))
	does(t, s, changes(hasKey("k", "")), hasKey("k", "22"))
	has(t, s, 1, []string{"k", ""})
	does(t, s, changes(noKey("k")), hasKey("k", ""))
	does(t, s, changes(noKey("k")))
	has(t, s, 1, nil)
	does(t, s, changes(hasTimer(x)), noTimer("t"))
	has(t, s, 5, nil, x)
	does(t, s, changes(hasTimer(y)), hasTimer(x))
	has(t, s, 5, nil, y)
	does(t, s, changes(noTimer("t")), hasTimer(y))
	does(t, s, changes(noTimer("t")))
	has(t, s, 5, nil)
}

// P12.1: keys and timers are apart, though they have one name.
func TestKeysAndTimersAreApart(t *testing.T) {
	x := timer("k", 1, 9, 0)
	s := storeOf(t, 0, hasKey("k", "v"), hasTimer(x))
	does(t, s, changes(noKey("k")), hasKey("k", "v"))
	has(t, s, 2, nil, x)
	does(t, s, changes(hasKey("k", "v"), noTimer("k")), hasTimer(x), noKey("k"))
	has(t, s, 2, []string{"k", "v"})
}

// P12.1: a list that puts, puts again, takes away, and takes away what is not
// there: what undoes it is told the last one's first.
func TestLists(t *testing.T) {
	x, y, z := timer("t", 4, 9, 2), timer("t", 2, 90, 0), bare("u", 7)
	s := New(3)
	does(t, s, changes(hasKey("k", "1"), hasKey("k", "22"), noKey("none"), hasTimer(x), noTimer("none"), hasTimer(y), noKey("k"), noKey("k"), hasKey("l", ""), hasTimer(z), noTimer("t"), noTimer("t")),
		hasTimer(y), noTimer("u"), noKey("l"), hasKey("k", "22"), hasTimer(x), noTimer("t"), hasKey("k", "1"), noKey("k"))
	has(t, s, 8, []string{"l", ""}, z)
	does(t, s, changes(noTimer("u"), hasTimer(x), noKey("l"), hasKey("l", "a"), hasKey("a", "b")), noKey("a"), noKey("l"), hasKey("l", ""), noTimer("t"), hasTimer(z))
	has(t, s, 8, []string{"a", "b", "l", "a"}, x)
}

// P12.1: keys are told in order, whatever the order in which they were put.
func TestKeysInOrder(t *testing.T) {
	keys := []string{"\x00", "\x00\x00", " ", "a", "a\x00", "aa", "ab", "b", "\xfe", "\xff", "\xff\x00"}
	var l []api.Change
	var pairs []string
	var all []api.Timer
	for _, key := range keys {
		x := bare(key, 1)
		l = append(l, hasKey(key, "v"+key), hasTimer(x))
		pairs, all = append(pairs, key, "v"+key), append(all, x)
	}
	slices.Reverse(l)
	s := storeOf(t, 0, slices.Concat(l[7:], l[:7])...)
	has(t, s, 2, pairs, all...)
}

// P12.1: a timer that is due already is there, and due, as any other.
func TestTimersThatAreDue(t *testing.T) {
	early, now, late := timer("a", 1, 0, 0), timer("b", 1, 10, 3), timer("c", 1, 11, 0)
	s := storeOf(t, 10, hasTimer(late), hasTimer(now), hasTimer(early))
	has(t, s, 2, nil, early, now, late)
	if l := names(s.Timers().Due()); !slices.Equal(l, []string{"a", "b"}) {
		t.Errorf("due: %q", l)
	}
	advances(t, s, 10)
	advances(t, s, 11, "c")
	advances(t, s, top)
}

// P12.1: a list with one change that is not right, wherever it stands: nothing is done.
func TestOneWrong(t *testing.T) {
	s := storeOf(t, 3, hasKey("k", "v"), hasTimer(timer("t", 4, 9, 2)))
	l := changes(hasKey("k", "1"), noTimer("t"), hasTimer(bare("u", 9)), hasKey("l", ""))
	for what, c := range wrongChanges() {
		for i := range len(l) + 1 {
			refuses(t, s, slices.Insert(apart(l), i, c), api.ErrState)
		}
		refuses(t, s, changes(c), api.ErrState)
		if t.Failed() {
			t.Fatal(what)
		}
	}
	// Ahead of what would be too much.
	refuses(t, s, append(manyKeys(200, 10, 60), api.Change{}), api.ErrState)
	refuses(t, s, slices.Insert(manyTimers(60), 0, api.Change{Kind: 5}), api.ErrState)
}

// P12.1: lists up to the bounds, and one beyond, of each and of several at once.
func TestTooMuch(t *testing.T) {
	one := hasTimer(bare("one", 900))
	for _, c := range []struct {
		l    []api.Change
		want api.Errno
	}{
		{manyKeys(100, 10, 0), api.OK},
		{manyKeys(101, 10, 0), api.ErrKeys},
		{manyKeys(100, 10, 30), api.OK},
		{append(manyKeys(99, 10, 30), hasKey("k", long(39))), api.OK},
		{append(manyKeys(99, 10, 30), hasKey("k", long(40))), api.ErrRoom},
		{manyKeys(101, 10, 30), api.ErrKeys},
		{manyKeys(58, 9, 60), api.ErrRoom},
		{manyTimers(50), api.OK},
		{manyTimers(51), api.ErrTimers},
		{append(manyTimers(49), one), api.OK},
		{append(manyTimers(50), one), api.ErrTimers},
		{append(manyTimers(51), manyKeys(101, 16, 60)...), api.ErrKeys},
		{append(manyTimers(51), manyKeys(100, 16, 60)...), api.ErrRoom},
		{append(manyTimers(51), manyKeys(100, 10, 30)...), api.ErrTimers},
		{append(manyTimers(50), manyKeys(100, 10, 30)...), api.OK},
		{append(manyTimers(51), manyKeys(101, 7, 0)...), api.ErrKeys},
		{manyKeys(5000, 16, 60), api.ErrKeys},
	} {
		s := New(1)
		if c.want != api.OK {
			refuses(t, s, c.l, c.want)
			has(t, s, 1, nil)
			continue
		}
		if undo, e := s.Do(c.l); e != api.OK || len(undo) != len(c.l) || len(s.Keys())+len(s.Timers().All()) != len(c.l) {
			t.Errorf("Do of %d changes: %d undo them, %v", len(c.l), len(undo), e)
		}
	}
}

// full is a store at all bounds.
func full(t *testing.T) *Store {
	s := storeOf(t, 1, append(manyTimers(50), manyKeys(100, 10, 30)...)...)
	if u := s.Use(); u != (quota.Use{Keys: api.MaxKeys, Room: api.MaxRoom, Timers: api.MaxTimers}) {
		t.Fatalf("%v is not full", u)
	}
	return s
}

// P12.1: what a full store takes and what it does not: it stays, its version too.
func TestFull(t *testing.T) {
	s := full(t)
	first := s.Keys()[0].Key
	refuses(t, s, changes(hasKey("k", "")), api.ErrKeys)
	refuses(t, s, changes(hasKey(first, long(31))), api.ErrRoom)
	refuses(t, s, changes(hasTimer(bare("t", 77))), api.ErrTimers)
	refuses(t, s, changes(hasTimer(bare("t", 77)), hasKey(first, long(31))), api.ErrRoom)
	refuses(t, s, changes(hasTimer(bare("t", 77)), hasKey(first, long(31)), hasKey("k", "")), api.ErrKeys)
	refuses(t, s, changes(noKey(first), noTimer(key(3)), hasTimer(bare("t", 77)), hasKey("k", long(40))), api.ErrRoom)
	refuses(t, s, changes(noKey("none"), hasKey("k", "")), api.ErrKeys)
	refuses(t, s, changes(noTimer("none"), hasTimer(bare("t", 77))), api.ErrTimers)
	does(t, s, changes(hasKey(first, long(30))), hasKey(first, long(30)))
	does(t, s, changes(hasTimer(bare(key(3), 1))), hasTimer(bare(key(3), 1)))
	does(t, s, changes(noKey(first), hasKey("k", long(39))), noKey("k"), hasKey(first, long(30)))
	does(t, s, changes(noTimer(key(3)), hasTimer(bare("t", 77))), noTimer("t"), hasTimer(bare(key(3), 1)))
	if s.Version() != 78 {
		t.Errorf("version %d", s.Version())
	}
}

// P12.1: lists that are too much half way, but not behind all of them.
func TestTooMuchHalfWay(t *testing.T) {
	s := full(t)
	has := s.Bytes()
	for _, l := range [][]api.Change{
		changes(hasKey("k", ""), noKey("k")),
		changes(hasKey(s.Keys()[5].Key, long(60)), hasKey(s.Keys()[5].Key, long(30))),
		changes(hasTimer(bare("t", 1)), noTimer("t")),
		changes(hasTimer(bare("t", 1)), hasKey("k", long(60)), hasKey("l", ""), noKey("l"), noKey("k"), noTimer("t")),
	} {
		undo, e := s.Do(l)
		if e != api.OK || len(undo) != len(l) || string(s.Bytes()) != string(has) {
			t.Errorf("Do(%v): %v, %v", l, undo, e)
		}
		if _, e := s.Do(undo); e != api.OK || string(s.Bytes()) != string(has) {
			t.Errorf("Do(%v): %v", undo, e)
		}
	}
	s = New(1)
	l := manyKeys(1000, 16, 60)
	for _, c := range slices.Clone(l[100:]) {
		l = append(l, noKey(c.Key))
	}
	refuses(t, s, l, api.ErrRoom)
	for _, c := range slices.Clone(l[50:100]) {
		l = append(l, noKey(c.Key))
	}
	if undo, e := s.Do(l); e != api.OK || len(undo) != len(l) || s.Use() != (quota.Use{Keys: 50, Room: 50 * 76}) {
		t.Errorf("Do: %d undo it, %v, %v", len(undo), e, s.Use())
	}
}

// P12.1: the version is one more than the greatest one that ever was there, and never falls.
func TestVersion(t *testing.T) {
	s := New(0)
	version := func(want int) {
		t.Helper()
		if s.Version() != want || s.Copy().Version() != want {
			t.Errorf("version %d, of a copy %d, want %d", s.Version(), s.Copy().Version(), want)
		}
	}
	version(1)
	does(t, s, changes(hasKey("k", "v")), noKey("k"))
	version(1)
	does(t, s, changes(hasTimer(bare("a", 1))), noTimer("a"))
	version(2)
	does(t, s, changes(hasTimer(bare("b", 7))), noTimer("b"))
	does(t, s, changes(hasTimer(bare("c", 3))), noTimer("c"))
	version(8)
	advances(t, s, 200, "a", "b", "c")
	does(t, s, changes(hasTimer(bare("b", 2))), hasTimer(bare("b", 7)))
	version(8)
	// It was there, though it is gone behind the same changes.
	does(t, s, changes(hasTimer(bare("d", 20)), hasTimer(bare("d", 9)), noTimer("d")), hasTimer(bare("d", 9)), hasTimer(bare("d", 20)), noTimer("d"))
	version(21)
	refuses(t, s, append(manyTimers(60), hasTimer(bare("e", 50))), api.ErrTimers)
	refuses(t, s, changes(hasTimer(bare("e", 50)), api.Change{}), api.ErrState)
	version(21)
	undo, _ := s.Do(changes(hasTimer(bare("e", 30))))
	does(t, s, undo, hasTimer(bare("e", 30)))
	version(31)
	s = s.Copy()
	advances(t, s, top)
	does(t, s, changes(noTimer("a"), noTimer("b"), noTimer("c")), hasTimer(bare("c", 3)), hasTimer(bare("b", 2)), hasTimer(bare("a", 1)))
	version(31)
	does(t, s, changes(hasTimer(bare("f", api.MaxNumber))), noTimer("f"))
	version(api.MaxNumber + 1)
	refuses(t, s, changes(hasTimer(bare("f", api.MaxNumber+1))), api.ErrState)
	does(t, s, changes(hasTimer(bare("f", 1))), hasTimer(bare("f", api.MaxNumber)))
	version(api.MaxNumber + 1)
}

// P12.2: what Do answers, done then, leaves keys, timers and use as they were, and so on, to and fro.
func TestUndone(t *testing.T) {
	x, y, z := timer("t", 4, 9, 2), timer("t", 2, 90, 0), timer("u", 7, 1, 1)
	for _, l := range [][]api.Change{
		nil,
		changes(hasKey("k", "1")),
		changes(hasKey("k", "1"), hasKey("k", "2"), hasKey("k", "3")),
		changes(noKey("k"), hasKey("k", "2"), noKey("k")),
		changes(hasKey("new", "1"), noKey("new"), hasKey("new", "2")),
		changes(hasTimer(x), hasTimer(y), noTimer("t"), hasTimer(x)),
		changes(noTimer("v"), hasTimer(z), noTimer("u"), hasTimer(bare("v", 2)), noKey("k"), noKey("l")),
		changes(noKey("none"), noTimer("none"), noKey("k"), noTimer("v")),
		changes(hasKey("t", "t"), hasTimer(x), noKey("t"), noTimer("t")),
		append(manyKeys(97, 10, 30), noKey("k"), noKey("l"), hasTimer(z)),
	} {
		s := storeOf(t, 5, hasKey("k", "v"), hasKey("l", ""), hasTimer(timer("v", 3, 20, 4)), hasTimer(timer("w", 1, 2, 0)))
		before := told(s)
		undo, e := s.Do(l)
		if e != api.OK {
			t.Fatalf("Do(%v): %v", l, e)
		}
		behind := told(s)
		for range 3 {
			again, e := s.Do(undo)
			if e != api.OK {
				t.Fatalf("Do(%v): %v", undo, e)
			}
			if before.version != s.Version() {
				before.version, before.bytes = s.Version(), string(s.Bytes())
			}
			before.isOf(t, s)
			undo, e = s.Do(again)
			if e != api.OK {
				t.Fatalf("Do(%v): %v", again, e)
			}
			behind.isOf(t, s)
		}
	}
}

// Rule 4: changes are neither written into nor kept, and what lies behind them is left alone.
func TestDoKeepsNothing(t *testing.T) {
	x := timer("t", 4, 9, 2)
	l := changes(hasTimer(timer("t", 4, 9, 2)), hasKey("k", "v"), api.Change{Kind: 99})
	s := storeOf(t, 0, l[:2]...)
	if !same(l[0], hasTimer(x)) || !same(l[1], hasKey("k", "v")) || l[2].Kind != 99 {
		t.Errorf("the changes were written into: %v", l)
	}
	l[0].Timer.Do[0].Key, l[1].Value = "spoilt", "spoilt"
	has(t, s, 5, []string{"k", "v"}, x)
	does(t, s, changes(noTimer("t")), hasTimer(x))
}

// Rule 4: what is answered shares nothing with the store, nor with itself.
func TestAnswersAreApart(t *testing.T) {
	x, y := timer("t", 4, 9, 2), timer("t", 5, 10, 2)
	s := storeOf(t, 0, hasKey("k", "v"), hasTimer(x))
	undo, _ := s.Do(changes(noTimer("t"), hasTimer(x), hasTimer(y), hasTimer(x)))
	want := changes(hasTimer(y), hasTimer(x), noTimer("t"), hasTimer(x))
	for i := range undo {
		if !same(undo[i], want[i]) {
			t.Errorf("undo %d: %v, want %v", i, undo[i], want[i])
		}
		for j := range undo[i].Timer.Do {
			undo[i].Timer.Do[j].Key = "spoilt"
		}
		_ = append(undo[i].Timer.Do, api.Step{Key: "spoilt"})
	}
	s.Keys()[0].Value = "spoilt"
	s.Timers().All()[0].Do[0].Key = "spoilt"
	b := s.Bytes()
	clear(b)
	has(t, s, 6, []string{"k", "v"}, x)
	again, _ := s.Do(changes(hasTimer(y)))
	has(t, s, 6, []string{"k", "v"}, y)
	again[0].Timer.Do[0].Key = "spoilt"
	does(t, s, changes(hasTimer(x)), hasTimer(y))
}
