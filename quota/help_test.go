package quota

import (
	"math"
	"testing"

	"belfry/api"
)

const (
	greatest = math.MaxInt
	least    = math.MinInt
)

// answer is what a call tells.
type answer struct {
	u Use
	e api.Errno
}

// told makes one of a call's results.
func told(u Use, e api.Errno) answer {
	return answer{u, e}
}

// fails is the answer with an error.
func fails(e api.Errno) answer {
	return answer{Use{}, e}
}

// full is the use at all bounds.
func full() Use {
	return Use{api.MaxKeys, api.MaxRoom, api.MaxTimers}
}

// call is a call on a use, the same for all.
type call struct {
	name string
	do   func(u Use) (Use, api.Errno)
}

// put, drop, arm and cancel are calls with their arguments.
func put(had bool, key, was, value int) call {
	return call{"Put", func(u Use) (Use, api.Errno) { return Put(u, had, key, was, value) }}
}

func drop(key, was int) call {
	return call{"Drop", func(u Use) (Use, api.Errno) { return Drop(u, key, was) }}
}

func arm(had bool) call {
	return call{"Arm", func(u Use) (Use, api.Errno) { return Arm(u, had) }}
}

func cancel() call {
	return call{"Cancel", Cancel}
}

// tells holds what a call tells against what it should.
func tells(t *testing.T, c call, u Use, want answer) {
	t.Helper()
	if got := told(c.do(u)); got != want {
		t.Errorf("%s of %v: %v, want %v", c.name, u, got, want)
	}
}

// wrongs are no numbers of bytes.
func wrongs() []int {
	return []int{-1, -2, -api.MaxRoom, api.MaxRoom + 1, api.MaxRoom + 2, 1 << 31, -1 << 31, 1 << 32, 1<<32 + 1, -1<<32 + 1, greatest, greatest - 1, least, least + 1}
}

// sizes are those at the edges, right and wrong.
func sizes() []int {
	return append([]int{0, 1, 2, api.MaxRoom / 2, api.MaxRoom - 1, api.MaxRoom}, wrongs()...)
}

// parts are numbers near a bound and far from it.
func parts(bound int) []int {
	return []int{0, 1, 2, bound - 1, bound, bound + 1, -1, least, greatest}
}

// uses are all uses with parts at the edges, right and wrong.
func uses() []Use {
	var l []Use
	for _, k := range parts(api.MaxKeys) {
		for _, r := range parts(api.MaxRoom) {
			for _, n := range parts(api.MaxTimers) {
				l = append(l, Use{k, r, n})
			}
		}
	}
	return l
}

// notRight are uses that are not right.
func notRight() []Use {
	l := []Use{{Keys: -1}, {Room: -1}, {Timers: -1}, {Keys: api.MaxKeys + 1}, {Room: api.MaxRoom + 1}, {Timers: api.MaxTimers + 1}}
	for _, n := range []int{least, greatest} {
		l = append(l, Use{n, 10, 1}, Use{1, n, 1}, Use{1, 10, n}, Use{n, n, n})
	}
	return append(l, Use{api.MaxKeys + 1, api.MaxRoom, api.MaxTimers}, Use{api.MaxKeys, api.MaxRoom + 1, 1}, Use{1, 10, api.MaxTimers + 1}, Use{-1, 10, 1}, Use{1, -1, 1}, Use{1, 10, -1})
}
