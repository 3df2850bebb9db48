package quota

import (
	"slices"
	"testing"

	"belfry/api"
)

const mostOf = 1<<31 - 1 // of each part that Of counts

// of holds what Of tells against what it should.
func of(t *testing.T, keys, values []int, timers int, want Use) {
	t.Helper()
	if u := Of(keys, values, timers); u != want {
		t.Errorf("Of %d keys, %d values, %d timers: %v, want %v", len(keys), len(values), timers, u, want)
	}
}

// P11.1: the use of keys and values, of none, and of lists of unlike lengths.
func TestOf(t *testing.T) {
	of(t, nil, nil, 0, Use{})
	of(t, []int{}, []int{}, 3, Use{Timers: 3})
	of(t, nil, []int{1, 2}, 0, Use{})
	of(t, []int{1, 2}, nil, 0, Use{})
	of(t, []int{3}, []int{4}, 1, Use{1, 7, 1})
	of(t, []int{0}, []int{0}, 0, Use{1, 0, 0})
	of(t, []int{1, 2, 3}, []int{10, 20, 30}, 2, Use{3, 66, 2})
	of(t, []int{1, 2, 3}, []int{10, 20}, 2, Use{2, 33, 2})
	of(t, []int{1, 2}, []int{10, 20, 30}, 2, Use{2, 33, 2})
	of(t, []int{1, 2, 3}, []int{10}, 0, Use{1, 11, 0})
	of(t, []int{1}, []int{10, 4001, -1}, 0, Use{1, 11, 0})
}

// P11.1: a size that is wrong counts as 0 bytes; its key counts.
func TestOfWrongSizes(t *testing.T) {
	of(t, []int{1, 2, 3}, []int{10, -5}, -1, Use{2, 13, 0})
	of(t, []int{4000}, []int{4000}, 0, Use{1, 8000, 0})
	for _, n := range wrongs() {
		of(t, []int{n}, []int{5}, 0, Use{1, 5, 0})
		of(t, []int{5}, []int{n}, 0, Use{1, 5, 0})
		of(t, []int{n, 1, n, 2}, []int{n, n, 3, 4}, 0, Use{4, 10, 0})
	}
}

// P11.1: timers below 0 are none; beyond 2^31 - 1 they are not counted.
func TestOfTimers(t *testing.T) {
	for _, c := range []struct{ timers, want int }{
		{0, 0}, {1, 1}, {50, 50}, {51, 51}, {1000, 1000}, {-1, 0}, {-50, 0}, {least, 0}, {least + 1, 0},
		{mostOf - 1, mostOf - 1}, {mostOf, mostOf}, {mostOf + 1, mostOf}, {1<<32 + 7, mostOf}, {-1<<32 + 7, 0}, {greatest, mostOf},
	} {
		of(t, []int{1}, []int{2}, c.timers, Use{1, 3, c.want})
	}
}

// P11.1: more than a shard may have is counted, up to 2^31 - 1 of each part: Of has no error.
func TestOfMany(t *testing.T) {
	for _, c := range []struct{ n, key, value, room int }{
		{101, 1, 1, 202},
		{1000, 16, 60, 76000},
		{100000, 4000, 4000, 800000000},
		{268435, 4000, 4000, 2147480000},
		{268436, 4000, 4000, mostOf},
		{268436, 3647, 4000, 2052730092},
		{536870, 4000, 0, 2147480000},
		{536871, 4000, 0, mostOf},
		{536871, 0, 4000, mostOf},
		{600000, 4000, 4000, mostOf},
	} {
		l, m := slices.Repeat([]int{c.key}, c.n), slices.Repeat([]int{c.value}, c.n)
		of(t, l, m, 7, Use{c.n, c.room, 7})
	}
}

// P11.1: bytes just up to 2^31 - 1, one more, and more behind that.
func TestOfJustSoMany(t *testing.T) {
	l, m := slices.Repeat([]int{4000}, 268435), slices.Repeat([]int{4000}, 268435)
	for _, c := range []struct{ key, value, room int }{
		{3647, 0, mostOf}, {0, 3647, mostOf}, {3646, 0, mostOf - 1}, {3646, 1, mostOf}, {3647, 1, mostOf}, {3648, 0, mostOf}, {4000, 4000, mostOf}, {4001, -1, mostOf - 3647},
	} {
		of(t, append(l, c.key), append(m, c.value), 0, Use{268436, c.room, 0})
		of(t, append(l, c.key, 0), append(m, c.value, 0), 0, Use{268437, c.room, 0})
		of(t, append([]int{c.key}, l...), append([]int{c.value}, m...), 0, Use{268436, c.room, 0})
	}
}

// Rule 4: the lists that are handed in are neither written nor kept, nor is what lies behind their lengths looked at.
func TestOfLeavesItsLists(t *testing.T) {
	keys, values := []int{1, -1, 4001, 3, 77}, []int{10, 20, 30, greatest, 77}
	k, v := slices.Clone(keys), slices.Clone(values)
	of(t, keys[:4], values[:3], 1, Use{3, 61, 1})
	if !slices.Equal(keys, k) || !slices.Equal(values, v) {
		t.Errorf("%v, %v", keys, values)
	}
	clear(keys)
	of(t, keys[:4], values[:3], 1, Use{3, 60, 1})
	of(t, v[:2], v[:2], 0, Use{2, 60, 0})
}

// Over of what Of tells: what is too much of keys, values and timers.
func TestOverOf(t *testing.T) {
	for _, c := range []struct {
		n, key, value, timers int
		want                  api.Errno
	}{
		{100, 10, 30, 50, api.OK},
		{101, 0, 0, 50, api.ErrKeys},
		{100, 10, 31, 50, api.ErrRoom},
		{101, 10, 31, 51, api.ErrKeys},
		{1, 0, 0, 51, api.ErrTimers},
		{1, 0, 0, greatest, api.ErrTimers},
	} {
		u := Of(slices.Repeat([]int{c.key}, c.n), slices.Repeat([]int{c.value}, c.n), c.timers)
		if e := Over(u); e != c.want {
			t.Errorf("Over(%v): %v, want %v", u, e, c.want)
		}
	}
}
