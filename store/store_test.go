package store

import (
	"testing"

	"belfry/api"
	"belfry/quota"
)

// P12.1, P1: all calls on a nil store.
func TestNil(t *testing.T) {
	var s *Store
	for _, l := range [][]api.Change{nil, {}, {{}}, {hasKey("k", "v")}, manyKeys(200, 10, 60)} {
		if undo, e := s.Do(l); e != api.ErrArg || len(undo) != 0 {
			t.Errorf("Do of %d changes: %v, %v", len(l), undo, e)
		}
	}
	for _, key := range []string{"", "k"} {
		if value, is := s.Get(key); value != "" || is {
			t.Errorf("Get(%q): %q, %v", key, value, is)
		}
	}
	for _, now := range []uint64{0, 1, top} {
		advances(t, s, now)
	}
	if s.Timers() != nil || s.Copy() != nil {
		t.Errorf("Timers %v, Copy %v", s.Timers(), s.Copy())
	}
	if len(s.Keys()) != 0 || s.Use() != (quota.Use{}) || s.Version() != 0 || len(s.Bytes()) != 0 {
		t.Errorf("Keys %v, Use %v, Version %d, Bytes %q", s.Keys(), s.Use(), s.Version(), s.Bytes())
	}
}

// P12.1: Get tells of keys alone that are there, just so.
func TestGet(t *testing.T) {
	s := storeOf(t, 0, hasKey("bell", "ding"), hasKey("belfry", ""), hasTimer(bare("tea", 1)))
	for _, key := range []string{"", "b", "bel", "bells", "tea", "BELL", "belfr", long(17), long(5000)} {
		if value, is := s.Get(key); value != "" || is {
			t.Errorf("Get(%q): %q, %v", key, value, is)
		}
	}
	if value, is := s.Get("belfry"); value != "" || !is {
		t.Errorf("Get of a value without bytes: %q, %v", value, is)
	}
	has(t, s, 2, []string{"belfry", "", "bell", "ding"}, bare("tea", 1))
}

// P12.1: the timers are told apart from the store, each time anew.
func TestTimersAreApart(t *testing.T) {
	a, b := timer("a", 1, 5, 3), timer("b", 2, 20, 0)
	s := storeOf(t, 10, hasTimer(a), hasTimer(b))
	before := told(s)
	x, y := s.Timers(), s.Timers()
	if e := x.Set(timer("c", 9, 30, 0)); e != api.OK || !x.Drop("a") {
		t.Errorf("Set: %v", e)
	}
	x.Advance(25)
	before.isOf(t, s)
	if y.Clock() != 10 || len(y.All()) != 2 || len(y.Due()) != 1 {
		t.Errorf("two answers are not apart: %v at %d", y.All(), y.Clock())
	}
	does(t, s, changes(noTimer("b")), hasTimer(b))
	advances(t, s, 15)
	if y.Clock() != 10 || len(y.All()) != 2 {
		t.Errorf("what was told is not apart from the store: %v at %d", y.All(), y.Clock())
	}
}

// P12.1: the clock, and what becomes due.
func TestAdvance(t *testing.T) {
	a, b, c, d := timer("a", 1, 20, 0), timer("b", 1, 12, 5), timer("c", 1, 12, 0), timer("d", 1, 9, 0)
	s := storeOf(t, 10, hasKey("k", "v"), hasTimer(d), hasTimer(c), hasTimer(b), hasTimer(a))
	due := func(now uint64, want ...api.Timer) {
		t.Helper()
		m := newModel(now)
		m.version, m.keys["k"] = 2, "v"
		for _, x := range []api.Timer{a, b, c, d} {
			m.timers[x.Name] = x
		}
		m.holds(t, s)
		if l := s.Timers().Due(); len(l) != len(want) {
			t.Errorf("due: %v, want %v", l, want)
		}
	}
	due(10, d)
	for _, now := range []uint64{10, 9, 0, 11} {
		advances(t, s, now)
	}
	due(11, d)
	advances(t, s, 12, "b", "c")
	due(12, d, b, c)
	advances(t, s, 12)
	advances(t, s, top, "a")
	due(top, d, b, c, a)
	advances(t, s, 0)
	due(top, d, b, c, a)
}

// P12.1: a copy that is changed leaves its store as it was, and the other way.
func TestCopy(t *testing.T) {
	a, b := timer("a", 1, 5, 3), timer("b", 2, 20, 0)
	s := storeOf(t, 10, hasKey("k", "v"), hasKey("kk", ""), hasTimer(a), hasTimer(b))
	before := told(s)
	c := s.Copy()
	before.isOf(t, c)
	does(t, c, changes(hasKey("k", "w"), noKey("kk"), hasKey("l", "1"), hasTimer(bare("a", 9)), noTimer("b")), hasTimer(b), hasTimer(a), noKey("l"), hasKey("kk", ""), hasKey("k", "v"))
	advances(t, c, 30)
	before.isOf(t, s)
	has(t, c, 10, []string{"k", "w", "l", "1"}, bare("a", 9))
	behind := told(c)
	advances(t, s, 20, "b")
	does(t, s, changes(noKey("k"), noTimer("a"), hasTimer(bare("z", 3))), noTimer("z"), hasTimer(a), hasKey("k", "v"))
	behind.isOf(t, c)
	has(t, s, 4, []string{"kk", ""}, b, bare("z", 3))
	// A copy of a full store is as full.
	full := full(t).Copy()
	refuses(t, full, changes(hasKey("k", "")), api.ErrKeys)
	refuses(t, full, changes(hasTimer(bare("t", 5))), api.ErrTimers)
}
