package timers

import (
	"slices"
	"strconv"
	"testing"

	"belfry/api"
)

// someTicks are clocks at both ends, and at the edges between.
func someTicks() []uint64 {
	return []uint64{0, 1, 15, 16, 65535, 65536, 1 << 32, api.MaxTick - 1, api.MaxTick, api.MaxTick + 1, 1 << 63, top - 1, top}
}

// P10.1, P1: a new table has its clock, and nothing else.
func TestEmpty(t *testing.T) {
	for _, now := range someTicks() {
		x := New(now)
		holds(t, x, now)
		lacks(t, x, "", "bell", long(api.MaxName), long(5000))
		advances(t, x, now)
		advances(t, x, top)
		holds(t, x, top)
		holds(t, x.Copy(), top)
	}
}

// P10.1, P1: a nil table.
func TestNil(t *testing.T) {
	var x *Table
	for _, y := range []api.Timer{{}, timer("bell", 5, 3), timer("", 0, 0)} {
		if e := x.Set(y); e != api.ErrArg {
			t.Errorf("Set(%v): %v", y, e)
		}
	}
	lacks(t, x, "", "bell")
	for _, now := range someTicks() {
		advances(t, x, now)
	}
	if len(x.Due()) != 0 || len(x.All()) != 0 || x.Clock() != 0 || x.Copy() != nil {
		t.Errorf("Due %v, All %v, Clock %d, Copy %v", x.Due(), x.All(), x.Clock(), x.Copy())
	}
	soonest(t, x, 0)
}

// P10.1: a timer alone is there as it was set, and due just if its deadline is not above the clock.
func TestOne(t *testing.T) {
	for _, now := range someTicks() {
		for _, at := range someTicks() {
			if at > api.MaxTick {
				continue
			}
			for _, y := range []api.Timer{timer("bell", at, 0), {Name: long(api.MaxName), Version: api.MaxNumber, At: at, Every: api.MaxTick}} {
				x := tableOf(t, now, y)
				holds(t, x, now, y)
				if is := len(x.Due()) == 1; is != (at <= now) {
					t.Errorf("%v at %d: due is %v", y, now, is)
				}
				lacks(t, x, "", "bel", "bells", long(api.MaxName-1))
				if !x.Drop(y.Name) || x.Drop(y.Name) {
					t.Errorf("Drop of %v", y)
				}
				holds(t, x, now)
				advances(t, x, top)
			}
		}
	}
}

// P10.1: Set in the place of one of its name, from each deadline to each other
// one: due, at the clock, just above it, in the wheel's levels, far.
func TestSetAgain(t *testing.T) {
	const now = 1000
	ats := []uint64{0, 1, 999, 1000, 1001, 1002, 1007, 1008, 1023, 1024, 2000, 5000, 70000, api.MaxTick}
	for _, first := range ats {
		for _, second := range ats {
			other, late := timer("aell", 1000, 0), timer("cell", 1002, 1)
			old := timer("bell", first, 3)
			y := api.Timer{Name: "bell", Version: 2, At: second, Every: 9, Do: []api.Step{{Kind: api.Cancel, Key: "c"}}}
			x := tableOf(t, now, late, old, other, y)
			holds(t, x, now, other, y, late)
			sets(t, x, old)
			holds(t, x, now, other, old, late)
			sets(t, x, y, y)
			var became []string
			if second == 1001 || second == 1002 {
				became = []string{"bell"}
			}
			advances(t, x, 1002, append(became, "cell")...)
			holds(t, x, 1002, other, y, late)
			advances(t, x, 1002)
			if !x.Drop("bell") {
				t.Errorf("%v in the place of %v can't be dropped", y, old)
			}
			lacks(t, x, "bell")
			advances(t, x, top)
			holds(t, x, top, other, late)
		}
	}
}

// P10.1: Set of the same deadline with all else another.
func TestSetAgainAtTheSame(t *testing.T) {
	for _, at := range []uint64{9, 10, 11, 300} {
		x := tableOf(t, 10, timer("bell", at, 3))
		y := api.Timer{Name: "bell", Version: 8, At: at}
		sets(t, x, y)
		holds(t, x, 10, y)
		if at > 10 {
			advances(t, x, at, "bell")
		} else {
			advances(t, x, at)
		}
		holds(t, x, max(at, 10), y)
	}
}

// P10.1, P10.2: from not due to due and back, and due once more: it is told each time it becomes so by the clock.
func TestDueAndBack(t *testing.T) {
	x := tableOf(t, 10, timer("bell", 12, 0))
	advances(t, x, 11)
	advances(t, x, 12, "bell")
	advances(t, x, 13)
	sets(t, x, timer("bell", 15, 0))
	holds(t, x, 13, timer("bell", 15, 0))
	advances(t, x, 14)
	advances(t, x, 16, "bell")
	sets(t, x, timer("bell", 16, 0))
	holds(t, x, 16, timer("bell", 16, 0))
	advances(t, x, 17)
	sets(t, x, timer("bell", 30, 0), timer("bell", 17, 0))
	advances(t, x, 40)
	holds(t, x, 40, timer("bell", 17, 0))
}

// P10.2: what is set when it is due already is due at once, and Advance does not tell it.
func TestDueAtOnce(t *testing.T) {
	x := New(10)
	sets(t, x, timer("a", 10, 0), timer("b", 0, 4), timer("c", 9, 0), timer("d", 11, 0))
	tells(t, "Due", x.Due(), timer("b", 0, 4), timer("c", 9, 0), timer("a", 10, 0))
	advances(t, x, 10)
	advances(t, x, 11, "d")
	tells(t, "Due", x.Due(), timer("b", 0, 4), timer("c", 9, 0), timer("a", 10, 0), timer("d", 11, 0))
	advances(t, x, top)
}

// P10.1: Drop and Get of names that are there, due or not, and of those that are not.
func TestDropAndGet(t *testing.T) {
	l := []api.Timer{timer("a", 5, 0), timer("aa", 30, 2), timer("ab", 10, 0), timer("b", 11, 1), timer("c", api.MaxTick, 0)}
	for i, gone := range l {
		x := tableOf(t, 10, l...)
		gets(t, x, gone)
		if !x.Drop(gone.Name) {
			t.Errorf("Drop of %v: false", gone)
		}
		lacks(t, x, gone.Name, "", "A", "a\x00", "abc", long(17), long(1000))
		holds(t, x, 10, slices.Delete(slices.Clone(l), i, i+1)...)
		sets(t, x, gone)
		holds(t, x, 10, l...)
		x.Drop(gone.Name)
		for _, name := range x.Advance(top) {
			if name == gone.Name {
				t.Errorf("%v became due, and was dropped", gone)
			}
		}
	}
}

// P10.1: a name that is no text is a name like others, and like no other.
func TestNamesAreBytes(t *testing.T) {
	l := []api.Timer{timer("\x00", 20, 0), timer("\x00\x00", 20, 0), timer(" ", 20, 0), timer("a", 20, 0), timer("a\x00", 20, 0), timer("aa", 20, 0), timer("b", 20, 0), timer("\xfe", 20, 0), timer("\xff", 20, 0), timer("\xff\x00", 20, 0)}
	back := slices.Clone(l)
	slices.Reverse(back)
	x := tableOf(t, 0, back...)
	tells(t, "All", x.All(), l...)
	var names []string
	for _, y := range l {
		names = append(names, y.Name)
	}
	advances(t, x, 20, names...)
	tells(t, "Due", x.Due(), l...)
}

// P10.1: Advance to the clock and below it does nothing.
func TestAdvanceNowhere(t *testing.T) {
	for _, now := range someTicks() {
		l := []api.Timer{timer("a", 0, 0), timer("b", min(now, api.MaxTick), 0), timer("c", min(now, api.MaxTick-1)+1, 0)}
		x := tableOf(t, now, l...)
		for _, to := range someTicks() {
			if to <= now {
				advances(t, x, to)
				holds(t, x, now, l...)
			}
		}
		if now > 0 {
			advances(t, x, now-1)
			holds(t, x, now, l...)
		}
	}
}

// P10.1, P10.2: tick by tick each timer becomes due at its own deadline.
func TestTickByTick(t *testing.T) {
	for _, start := range []uint64{0, 250, 65500, api.MaxTick - 70} {
		var l []api.Timer
		for i := range uint64(60) {
			l = append(l, timer("n"+strconv.Itoa(int(99-i)), start+i+1, i))
		}
		x := tableOf(t, start, l...)
		for i, y := range l {
			soonest(t, x, y.At)
			advances(t, x, y.At-1)
			tells(t, "Due", x.Due(), l[:i]...)
			advances(t, x, y.At, y.Name)
			tells(t, "Due", x.Due(), l[:i+1]...)
		}
		soonest(t, x, 0)
		advances(t, x, top)
	}
}

// P10.1, P10.2: a leap tells by deadlines, then names, what it passes and comes to, each once.
func TestLeap(t *testing.T) {
	l := []api.Timer{timer("d", 3, 0), timer("b", 7, 0), timer("c", 7, 2), timer("ca", 7, 0), timer("a", 90, 0), timer("z", 4000, 0), timer("y", 4001, 1), timer("x", 1<<40, 0), timer("w", api.MaxTick, 0)}
	names := []string{"d", "b", "c", "ca", "a", "z", "y", "x", "w"}
	for _, c := range []struct {
		to    uint64
		count int
	}{{2, 0}, {3, 1}, {6, 1}, {7, 4}, {89, 4}, {90, 5}, {3999, 5}, {4000, 6}, {4001, 7}, {1<<40 - 1, 7}, {1 << 40, 8}, {api.MaxTick - 1, 8}, {api.MaxTick, 9}, {api.MaxTick + 1, 9}, {top, 9}} {
		for range 3 {
			// Else it might be told as it was set.
			back := slices.Clone(l)
			slices.Reverse(back)
			x := tableOf(t, 2, slices.Concat(back[4:], back[:4])...)
			advances(t, x, c.to, names[:c.count]...)
			tells(t, "Due", x.Due(), l[:c.count]...)
			advances(t, x, c.to)
			advances(t, x, top, names[c.count:]...)
			tells(t, "Due", x.Due(), l...)
			advances(t, x, top)
		}
	}
}

// P10.1: Due is in the order of deadlines, All in that of names; asked over and over they tell the same.
func TestDueAndAll(t *testing.T) {
	a, b, c, d, e := timer("a", 20, 0), timer("b", 9, 0), timer("c", 9, 0), timer("d", 3, 0), timer("e", 10, 0)
	x := tableOf(t, 4, a, e, c, d, b)
	for range 3 {
		tells(t, "Due", x.Due(), d)
		tells(t, "All", x.All(), a, b, c, d, e)
	}
	advances(t, x, 10, "b", "c", "e")
	for range 3 {
		tells(t, "Due", x.Due(), d, b, c, e)
		tells(t, "All", x.All(), a, b, c, d, e)
	}
	x.Drop("b")
	sets(t, x, timer("c", 11, 0))
	tells(t, "Due", x.Due(), d, e)
	tells(t, "All", x.All(), a, timer("c", 11, 0), d, e)
	sets(t, x, timer("e", 2, 0))
	tells(t, "Due", x.Due(), timer("e", 2, 0), d)
}

// P10.1: Soonest is of those alone that are not due.
func TestSoonest(t *testing.T) {
	x := New(10)
	soonest(t, x, 0)
	sets(t, x, timer("a", 9, 0), timer("b", 10, 0))
	soonest(t, x, 0)
	sets(t, x, timer("c", 400, 0))
	soonest(t, x, 400)
	sets(t, x, timer("d", 11, 0), timer("e", 12, 0))
	soonest(t, x, 11)
	advances(t, x, 11, "d")
	soonest(t, x, 12)
	x.Drop("e")
	soonest(t, x, 400)
	sets(t, x, timer("c", 8, 0))
	soonest(t, x, 0)
	sets(t, x, timer("a", api.MaxTick, 0))
	soonest(t, x, api.MaxTick)
	advances(t, x, api.MaxTick-1)
	soonest(t, x, api.MaxTick)
	advances(t, x, api.MaxTick, "a")
	soonest(t, x, 0)
}

// P10.3, and the document's ninth and fifth examples: what fires is gone, or comes again.
func TestFiresAndComesAgain(t *testing.T) {
	x := tableOf(t, 0, timer("bell", 9, 0), timer("tower", 12, 5))
	advances(t, x, 9, "bell")
	y, _ := x.Get("bell")
	if z, is := After(y, x.Clock()); is {
		t.Errorf("After(%v): %v", y, z)
	}
	x.Drop("bell")
	advances(t, x, 20, "tower")
	for _, c := range []struct{ now, at uint64 }{{20, 22}, {22, 27}, {26, 27}, {27, 32}, {41, 42}, {42, 47}} {
		x.Advance(c.now)
		y, _ = x.Get("tower")
		z, is := After(y, x.Clock())
		if !is || z.At != c.at {
			t.Errorf("After(%v, %d): %v, %v, want %d", y, c.now, z, is, c.at)
		}
		sets(t, x, z)
		holds(t, x, c.now, timer("tower", c.at, 5))
	}
}

// turn turns a timer's steps, and what lies behind them.
func turn(l ...api.Timer) {
	for _, y := range l {
		for i := range y.Do {
			y.Do[i] = api.Step{Kind: api.Cancel, Key: "turned"}
		}
		_ = append(y.Do, api.Step{Kind: api.Cancel, Key: "behind"})
	}
}

// P10.1, and the document's rule 4: what Set was given and what Get, Due and
// All give stand apart from the table, and from one another.
func TestApart(t *testing.T) {
	a, b := timer("a", 5, 3), timer("b", 50, 0)
	room := append(steps(), api.Step{Kind: api.Drop, Key: "mine"})
	given := a
	given.Do = room[:2]
	x := tableOf(t, 10, given, b)
	if !slices.Equal(room, append(steps(), api.Step{Kind: api.Drop, Key: "mine"})) {
		t.Errorf("Set wrote into %v", room)
	}
	turn(given)
	holds(t, x, 10, a, b)
	for _, name := range []string{"a", "b"} {
		first, _ := x.Get(name)
		second, _ := x.Get(name)
		turn(first)
		if !slices.Equal(second.Do, steps()) {
			t.Errorf("two answers of Get share %v", second)
		}
		holds(t, x, 10, a, b)
	}
	all, due := x.All(), x.Due()
	turn(all...)
	tells(t, "Due, told earlier,", due, a)
	turn(due...)
	holds(t, x, 10, a, b)
	all, due = x.All(), x.Due()
	clear(all)
	clear(due)
	_ = append(all[:0], timer("z", 1, 1))
	holds(t, x, 10, a, b)
}

// P10.1: names that Advance told are the caller's.
func TestAdvanceApart(t *testing.T) {
	l := []api.Timer{timer("a", 5, 0), timer("b", 6, 0), timer("c", 7, 0)}
	x := tableOf(t, 0, l...)
	names := x.Advance(6)
	names[0] = "c"
	_ = append(names[:1], "x", "y")
	holds(t, x, 6, l...)
	advances(t, x, 7, "c")
}

// P10.1: a copy has the same, and what is done to one of the two leaves the other one.
func TestCopy(t *testing.T) {
	l := []api.Timer{timer("a", 5, 3), timer("b", 10, 0), timer("c", 11, 0), timer("d", 300, 0), timer("e", api.MaxTick, 1)}
	for _, now := range []uint64{0, 4, 10, 299, 70000, api.MaxTick, top} {
		x := tableOf(t, now, l...)
		y := x.Copy()
		for range 2 {
			holds(t, y, now, l...)
			sets(t, y, timer("c", 1, 0), timer("f", 7, 7), timer("a", 400, 0))
			y.Drop("b")
			y.Drop("d")
			y.Advance(top)
			turn(y.All()...)
			holds(t, x, now, l...)
			// And the other way round.
			x, y = x.Copy(), x
		}
		holds(t, x, now, l...)
		z := x.Copy()
		turn(z.All()...)
		for name := range z.timers {
			turn(z.timers[name])
		}
		holds(t, x, now, l...)
	}
}

// P10.1: a copy tells from then on what the table itself would tell.
func TestCopyGoesOn(t *testing.T) {
	l := []api.Timer{timer("a", 5, 3), timer("b", 10, 0), timer("c", 11, 0), timer("d", 11, 0), timer("e", 5000, 1)}
	x := tableOf(t, 4, l...)
	advances(t, x, 7, "a")
	y := x.Copy()
	for _, z := range []*Table{y, x, y.Copy(), x.Copy()} {
		soonest(t, z, 10)
		if z.Clock() != 7 {
			t.Errorf("clock %d", z.Clock())
		}
		w := z.Copy()
		advances(t, w, 11, "b", "c", "d")
		advances(t, w, 4999)
		advances(t, w, 5000, "e")
		holds(t, w, 5000, l...)
	}
	holds(t, x, 7, l...)
	holds(t, y, 7, l...)
}

// P1: with steps that are not there, as nil or as a list without elements.
func TestNoSteps(t *testing.T) {
	for _, do := range [][]api.Step{nil, {}, steps()[:0]} {
		y := api.Timer{Name: "a", Version: 1, At: 5, Every: 2, Do: do}
		x := tableOf(t, 4, y)
		holds(t, x, 4, y)
		advances(t, x, 5, "a")
		holds(t, x.Copy(), 5, y)
		if z, is := After(y, 5); !is || len(z.Do) != 0 || z.At != 7 {
			t.Errorf("After: %v, %v", z, is)
		}
	}
}
