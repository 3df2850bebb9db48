package quota

import (
	"testing"

	"belfry/api"
)

// P11.1: a use is right up to its bounds, and Over tells what is above them, whichever other parts there are.
func TestRightAndOver(t *testing.T) {
	for _, c := range []struct {
		u     Use
		right bool
		over  api.Errno
	}{
		{Use{}, true, api.OK},
		{Use{1, 1, 1}, true, api.OK},
		{Use{1, 0, 0}, true, api.OK},
		{Use{0, 1, 0}, true, api.OK},
		{Use{0, 0, 1}, true, api.OK},
		{Use{100, 4000, 50}, true, api.OK},
		{Use{100, 0, 0}, true, api.OK},
		{Use{0, 4000, 0}, true, api.OK},
		{Use{0, 0, 50}, true, api.OK},
		{Use{101, 0, 0}, false, api.ErrKeys},
		{Use{0, 4001, 0}, false, api.ErrRoom},
		{Use{0, 0, 51}, false, api.ErrTimers},
		{Use{101, 4001, 0}, false, api.ErrKeys},
		{Use{101, 0, 51}, false, api.ErrKeys},
		{Use{0, 4001, 51}, false, api.ErrRoom},
		{Use{101, 4001, 51}, false, api.ErrKeys},
		{Use{-1, 0, 0}, false, api.OK},
		{Use{0, -1, 0}, false, api.OK},
		{Use{0, 0, -1}, false, api.OK},
		{Use{-1, -1, -1}, false, api.OK},
		{Use{-1, 4001, 51}, false, api.ErrRoom},
		{Use{-1, -1, 51}, false, api.ErrTimers},
		{Use{101, -1, -1}, false, api.ErrKeys},
		{Use{least, least, least}, false, api.OK},
		{Use{greatest, greatest, greatest}, false, api.ErrKeys},
		{Use{least, greatest, greatest}, false, api.ErrRoom},
		{Use{least, least, greatest}, false, api.ErrTimers},
	} {
		if right, over := Right(c.u), Over(c.u); right != c.right || over != c.over {
			t.Errorf("%v: right %v, over %v", c.u, right, over)
		}
	}
}

// P11.1: Put of a key that had no value: it and its value are more.
func TestPutNew(t *testing.T) {
	u := Use{2, 10, 1}
	for _, c := range []struct {
		key, value int
		want       answer
	}{
		{3, 4, answer{Use{3, 17, 1}, api.OK}},
		{1, 0, answer{Use{3, 11, 1}, api.OK}},
		{0, 1, answer{Use{3, 11, 1}, api.OK}},
		{0, 0, answer{Use{3, 10, 1}, api.OK}},
		{16, 60, answer{Use{3, 86, 1}, api.OK}},
		{3990, 0, answer{Use{3, 4000, 1}, api.OK}},
		{0, 3990, answer{Use{3, 4000, 1}, api.OK}},
		{16, 3974, answer{Use{3, 4000, 1}, api.OK}},
		{16, 3975, fails(api.ErrRoom)},
		{3991, 0, fails(api.ErrRoom)},
		{0, 3991, fails(api.ErrRoom)},
		{4000, 0, fails(api.ErrRoom)},
		{0, 4000, fails(api.ErrRoom)},
		{4000, 4000, fails(api.ErrRoom)},
		{-1, 4, fails(api.ErrArg)},
		{4, -1, fails(api.ErrArg)},
		{4001, 0, fails(api.ErrArg)},
		{0, 4001, fails(api.ErrArg)},
		{4001, -4001, fails(api.ErrArg)},
		{greatest, greatest, fails(api.ErrArg)},
		{least, least, fails(api.ErrArg)},
	} {
		tells(t, put(false, c.key, 0, c.value), u, c.want)
	}
}

// P11.1: Put of a key that had a value: the new one is instead of it.
func TestPutAnew(t *testing.T) {
	u := Use{2, 10, 1}
	for _, c := range []struct {
		key, was, value int
		want            answer
	}{
		{3, 4, 1, answer{Use{2, 7, 1}, api.OK}},
		{3, 4, 4, answer{Use{2, 10, 1}, api.OK}},
		{3, 4, 5, answer{Use{2, 11, 1}, api.OK}},
		{3, 4, 0, answer{Use{2, 6, 1}, api.OK}},
		{3, 0, 4, answer{Use{2, 14, 1}, api.OK}},
		{0, 0, 0, answer{Use{2, 10, 1}, api.OK}},
		{3, 7, 0, answer{Use{2, 3, 1}, api.OK}},
		{3, 7, 3997, answer{Use{2, 4000, 1}, api.OK}},
		{3, 7, 3998, fails(api.ErrRoom)},
		{3, 0, 3990, answer{Use{2, 4000, 1}, api.OK}},
		{3, 0, 3991, fails(api.ErrRoom)},
		{3, 0, 4000, fails(api.ErrRoom)},
		{-1, 4, 1, fails(api.ErrArg)},
		{3, -1, 1, fails(api.ErrArg)},
		{3, 4, -1, fails(api.ErrArg)},
		{4001, 4, 1, fails(api.ErrArg)},
		{3, 4001, 1, fails(api.ErrArg)},
		{3, 4, 4001, fails(api.ErrArg)},
	} {
		tells(t, put(true, c.key, c.was, c.value), u, c.want)
	}
}

// P11.1: Put up to the bounds, one beyond either, and beyond both at once, where the keys are told.
func TestPutAtBounds(t *testing.T) {
	for _, c := range []struct {
		u    Use
		had  bool
		was  int
		size int
		want answer
	}{
		{Use{99, 3990, 50}, false, 0, 7, answer{Use{100, 4000, 50}, api.OK}},
		{Use{99, 3990, 50}, false, 0, 8, fails(api.ErrRoom)},
		{Use{100, 3990, 50}, false, 0, 7, fails(api.ErrKeys)},
		{Use{100, 3990, 50}, false, 0, 8, fails(api.ErrKeys)},
		{Use{100, 4000, 50}, false, 0, 4000, fails(api.ErrKeys)},
		{Use{100, 0, 0}, false, 0, 0, fails(api.ErrKeys)},
		{Use{100, 3990, 50}, true, 5, 15, answer{Use{100, 4000, 50}, api.OK}},
		{Use{100, 3990, 50}, true, 5, 16, fails(api.ErrRoom)},
		{Use{100, 4000, 50}, true, 5, 5, answer{Use{100, 4000, 50}, api.OK}},
		{Use{100, 4000, 50}, true, 5, 6, fails(api.ErrRoom)},
		{Use{100, 4000, 50}, true, 5, 0, answer{Use{100, 3995, 50}, api.OK}},
		{Use{1, 4000, 0}, true, 3997, 0, answer{Use{1, 3, 0}, api.OK}},
	} {
		tells(t, put(c.had, 3, c.was, c.size), c.u, c.want)
	}
}

// P11.1: Put with had takes the key and what it had away: ErrArg, if fewer are there.
func TestPutOfMoreThanThere(t *testing.T) {
	for _, c := range []struct {
		u        Use
		key, was int
		want     answer
	}{
		{Use{0, 10, 1}, 3, 4, fails(api.ErrArg)},
		{Use{0, 0, 0}, 0, 0, fails(api.ErrArg)},
		{Use{1, 0, 0}, 0, 0, answer{Use{1, 2, 0}, api.OK}},
		{Use{1, 7, 0}, 3, 4, answer{Use{1, 5, 0}, api.OK}},
		{Use{1, 6, 0}, 3, 4, fails(api.ErrArg)},
		{Use{1, 3, 0}, 3, 4, fails(api.ErrArg)},
		{Use{1, 3, 0}, 3, 0, answer{Use{1, 5, 0}, api.OK}},
		{Use{1, 2, 0}, 3, 0, fails(api.ErrArg)},
		{Use{100, 4000, 50}, 4000, 1, fails(api.ErrArg)},
		{Use{100, 4000, 50}, 4000, 4000, fails(api.ErrArg)},
		{Use{100, 4000, 50}, 0, 4000, answer{Use{100, 2, 50}, api.OK}},
	} {
		tells(t, put(true, c.key, c.was, 2), c.u, c.want)
	}
	tells(t, put(true, 3, 4, 4000), Use{1, 6, 0}, fails(api.ErrArg))
}

// P11.1: Drop takes a key and its value away: ErrArg, if fewer are there.
func TestDrop(t *testing.T) {
	for _, c := range []struct {
		u        Use
		key, was int
		want     answer
	}{
		{Use{2, 10, 1}, 3, 4, answer{Use{1, 3, 1}, api.OK}},
		{Use{2, 10, 1}, 0, 0, answer{Use{1, 10, 1}, api.OK}},
		{Use{2, 10, 1}, 10, 0, answer{Use{1, 0, 1}, api.OK}},
		{Use{2, 10, 1}, 0, 10, answer{Use{1, 0, 1}, api.OK}},
		{Use{2, 10, 1}, 6, 5, fails(api.ErrArg)},
		{Use{2, 10, 1}, 11, 0, fails(api.ErrArg)},
		{Use{2, 10, 1}, 0, 11, fails(api.ErrArg)},
		{Use{1, 3, 0}, 2, 2, fails(api.ErrArg)},
		{Use{0, 10, 1}, 3, 4, fails(api.ErrArg)},
		{Use{0, 0, 0}, 0, 0, fails(api.ErrArg)},
		{Use{1, 0, 0}, 0, 0, answer{Use{}, api.OK}},
		{Use{1, 0, 0}, 1, 0, fails(api.ErrArg)},
		{full(), 16, 60, answer{Use{99, 3924, 50}, api.OK}},
		{full(), 4000, 0, answer{Use{99, 0, 50}, api.OK}},
		{full(), 4000, 1, fails(api.ErrArg)},
		{full(), 4000, 4000, fails(api.ErrArg)},
		{Use{2, 10, 1}, -1, 4, fails(api.ErrArg)},
		{Use{2, 10, 1}, 4, -1, fails(api.ErrArg)},
		{Use{2, 10, 1}, 4001, -4001, fails(api.ErrArg)},
		{full(), 4001, 0, fails(api.ErrArg)},
		{full(), 0, 4001, fails(api.ErrArg)},
		{full(), greatest, greatest, fails(api.ErrArg)},
		{full(), least, least, fails(api.ErrArg)},
		{full(), greatest, least, fails(api.ErrArg)},
	} {
		tells(t, drop(c.key, c.was), c.u, c.want)
	}
}

// P11.1: Arm has one timer more, if it was not there.
func TestArm(t *testing.T) {
	for _, c := range []struct {
		timers int
		had    bool
		want   answer
	}{
		{0, false, answer{Use{2, 10, 1}, api.OK}},
		{1, false, answer{Use{2, 10, 2}, api.OK}},
		{1, true, answer{Use{2, 10, 1}, api.OK}},
		{49, false, answer{Use{2, 10, 50}, api.OK}},
		{49, true, answer{Use{2, 10, 49}, api.OK}},
		{50, false, fails(api.ErrTimers)},
		{50, true, answer{Use{2, 10, 50}, api.OK}},
		{0, true, fails(api.ErrArg)},
		{51, true, fails(api.ErrArg)},
		{51, false, fails(api.ErrArg)},
		{-1, false, fails(api.ErrArg)},
		{-1, true, fails(api.ErrArg)},
	} {
		tells(t, arm(c.had), Use{2, 10, c.timers}, c.want)
	}
	tells(t, arm(false), Use{100, 4000, 49}, answer{full(), api.OK})
	tells(t, arm(true), full(), answer{full(), api.OK})
}

// P11.1: Cancel has one timer less, where there is one.
func TestCancel(t *testing.T) {
	tells(t, cancel(), Use{2, 10, 1}, answer{Use{2, 10, 0}, api.OK})
	tells(t, cancel(), Use{0, 0, 2}, answer{Use{0, 0, 1}, api.OK})
	tells(t, cancel(), full(), answer{Use{100, 4000, 49}, api.OK})
	tells(t, cancel(), Use{2, 10, 0}, fails(api.ErrArg))
	tells(t, cancel(), Use{}, fails(api.ErrArg))
	tells(t, cancel(), Use{2, 10, 51}, fails(api.ErrArg))
	tells(t, cancel(), Use{2, 10, -1}, fails(api.ErrArg))
}

// P11.1: of a use that is not right all is ErrArg, ahead of what would be too much or right again then.
func TestOfUsesThatAreNotRight(t *testing.T) {
	calls := []call{
		put(false, 1, 0, 1), put(false, 0, 0, 0), put(false, 4000, 0, 4000), put(true, 1, 1, 1), put(true, 0, 1, 0), put(true, 0, 0, 1), put(true, 1, 4000, 0),
		drop(1, 1), drop(0, 0), drop(0, 1), arm(false), arm(true), cancel(),
	}
	for _, u := range notRight() {
		for _, c := range calls {
			tells(t, c, u, fails(api.ErrArg))
		}
	}
}

// P11.1: a number of bytes that is wrong is ErrArg, in whatever place, and ahead of what would be too much.
func TestWrongSizes(t *testing.T) {
	for _, u := range []Use{{}, {2, 10, 1}, {100, 0, 0}, full()} {
		for _, n := range wrongs() {
			for _, c := range []call{
				put(false, n, 0, 1), put(false, 1, 0, n), put(false, 1, n, 1), put(false, n, n, n),
				put(true, n, 1, 1), put(true, 1, 1, n), put(true, 1, n, 1), put(true, n, n, n), put(true, 1, -n, n),
				drop(n, 1), drop(1, n), drop(n, n), drop(n, -n),
			} {
				tells(t, c, u, fails(api.ErrArg))
			}
		}
	}
}
