package timers

import (
	"math"
	"slices"
	"strings"
	"testing"

	"belfry/api"
)

const (
	top      = math.MaxUint64
	greatest = math.MaxInt
	least    = math.MinInt
)

// timer is a right one, with two steps.
func timer(name string, at, every uint64) api.Timer {
	return api.Timer{Name: name, Version: 1, At: at, Every: every, Do: steps()}
}

// steps are an action, new each time.
func steps() []api.Step {
	return []api.Step{{Kind: api.Put, Key: "k", Value: "v"}, {Kind: api.Add, Key: "n", N: 1}}
}

// long is a text of n bytes.
func long(n int) string {
	return strings.Repeat("x", n)
}

// same says whether two timers are the same, in all their fields.
func same(a, b api.Timer) bool {
	return a.Name == b.Name && a.Version == b.Version && a.At == b.At && a.Every == b.Every && slices.Equal(a.Do, b.Do)
}

// tableOf has timers, set one behind another.
func tableOf(t *testing.T, now uint64, timers ...api.Timer) *Table {
	t.Helper()
	x := New(now)
	sets(t, x, timers...)
	return x
}

// sets sets timers, and says that there was no error.
func sets(t *testing.T, x *Table, timers ...api.Timer) {
	t.Helper()
	for _, y := range timers {
		if e := x.Set(y); e != api.OK {
			t.Errorf("Set(%v): %v", y, e)
		}
	}
}

// tells says that a call told of just these timers, in this order.
func tells(t *testing.T, what string, got []api.Timer, want ...api.Timer) {
	t.Helper()
	if !slices.EqualFunc(got, want, same) {
		t.Errorf("%s: %v, want %v", what, got, want)
	}
}

// advances moves the clock, and says which timers became due.
func advances(t *testing.T, x *Table, now uint64, names ...string) {
	t.Helper()
	if l := x.Advance(now); !slices.Equal(l, names) {
		t.Errorf("Advance(%d): %q, want %q", now, l, names)
	}
}

// gets says that a timer is there, as it is.
func gets(t *testing.T, x *Table, want api.Timer) {
	t.Helper()
	if got, is := x.Get(want.Name); !is || !same(got, want) {
		t.Errorf("Get(%q): %v, %v, want %v", want.Name, got, is, want)
	}
}

// lacks says that names are not there, whatever is asked.
func lacks(t *testing.T, x *Table, names ...string) {
	t.Helper()
	for _, name := range names {
		if got, is := x.Get(name); is || !same(got, api.Timer{}) || got.Do != nil {
			t.Errorf("Get(%q): %v, %v, and it should not be there", name, got, is)
		}
		if x.Drop(name) {
			t.Errorf("Drop(%q): true, and it should not be there", name)
		}
	}
	for _, y := range slices.Concat(x.All(), x.Due()) {
		if slices.Contains(names, y.Name) {
			t.Errorf("%v is told, and should not be there", y)
		}
	}
}

// soonest says what Soonest should answer: nothing of a deadline 0, as a timer
// at 0 is due at every clock.
func soonest(t *testing.T, x *Table, want uint64) {
	t.Helper()
	if at, is := x.Soonest(); at != want || is != (want > 0) {
		t.Errorf("Soonest: %d, %v, want %d", at, is, want)
	}
}

// holds says that a table has just these timers, whatever is asked: which of
// them are due, and all orders, are worked out from the clock and from them.
func holds(t *testing.T, x *Table, now uint64, timers ...api.Timer) {
	t.Helper()
	modelOf(now, timers...).holds(t, x)
}
