package quota

import (
	"math/big"
	"math/rand"
	"testing"

	"belfry/api"
)

// amount is a use told in numbers without end: keys, bytes, timers.
type amount [3]*big.Int

// amountOf is a use's.
func amountOf(u Use) amount {
	return amount{big.NewInt(int64(u.Keys)), big.NewInt(int64(u.Room)), big.NewInt(int64(u.Timers))}
}

// plus adds numbers to keys, bytes and timers, each times a sign.
func (a amount) plus(sign int64, keys, timers int, bytes ...int) amount {
	add := [3]*big.Int{big.NewInt(int64(keys)), new(big.Int), big.NewInt(int64(timers))}
	for _, n := range bytes {
		add[1].Add(add[1], big.NewInt(int64(n)))
	}
	var sum amount
	for i := range sum {
		sum[i] = new(big.Int).Add(a[i], add[i].Mul(add[i], big.NewInt(sign)))
	}
	return sum
}

// below tells whether a part is below 0.
func (a amount) below() bool {
	return a[0].Sign() < 0 || a[1].Sign() < 0 || a[2].Sign() < 0
}

// over tells the first part that is too much.
func (a amount) over() api.Errno {
	for i, bound := range []int64{100, 4000, 50} {
		if a[i].Cmp(big.NewInt(bound)) > 0 {
			return []api.Errno{api.ErrKeys, api.ErrRoom, api.ErrTimers}[i]
		}
	}
	return api.OK
}

// tell is the answer with this amount.
func (a amount) tell() answer {
	if e := a.over(); e != api.OK {
		return fails(e)
	}
	return answer{Use{int(a[0].Int64()), int(a[1].Int64()), int(a[2].Int64())}, api.OK}
}

// model is what a call should tell: of a use from which `less` is taken, to which `more` is added.
func model(u Use, bytes []int, less, more func(amount) amount) answer {
	a := amountOf(u)
	if a.below() || a.over() != api.OK {
		return fails(api.ErrArg)
	}
	for _, n := range bytes {
		if n < 0 || n > 4000 {
			return fails(api.ErrArg)
		}
	}
	a = less(a)
	if a.below() {
		return fails(api.ErrArg)
	}
	return more(a).tell()
}

// as leaves an amount as it is.
func as(a amount) amount { return a }

// putModel is what Put should tell.
func putModel(u Use, had bool, key, was, value int) answer {
	less := as
	if had {
		less = func(a amount) amount { return a.plus(-1, 1, 0, key, was) }
	}
	return model(u, []int{key, was, value}, less, func(a amount) amount { return a.plus(1, 1, 0, key, value) })
}

// dropModel is what Drop should tell.
func dropModel(u Use, key, was int) answer {
	return model(u, []int{key, was}, func(a amount) amount { return a.plus(-1, 1, 0, key, was) }, as)
}

// armModel is what Arm should tell.
func armModel(u Use, had bool) answer {
	less := as
	if had {
		less = func(a amount) amount { return a.plus(-1, 0, 1) }
	}
	return model(u, nil, less, func(a amount) amount { return a.plus(1, 0, 1) })
}

// cancelModel is what Cancel should tell.
func cancelModel(u Use) answer {
	return model(u, nil, func(a amount) amount { return a.plus(-1, 0, 1) }, as)
}

// ofModel is what Of should tell.
func ofModel(keys, values []int, timers int) Use {
	n := 0
	room := int64(0)
	for n < len(keys) && n < len(values) {
		for _, size := range []int{keys[n], values[n]} {
			if size >= 0 && size <= 4000 {
				room += int64(size)
			}
		}
		n++
	}
	return Use{n, int(min(room, 2147483647)), min(max(timers, 0), 2147483647)}
}

// P11.1, P11.3: all calls on all uses with parts at the edges, of all sizes at the edges, held against numbers without end.
func TestEdges(t *testing.T) {
	for _, u := range uses() {
		a := amountOf(u)
		if Over(u) != a.over() || Right(u) != (!a.below() && a.over() == api.OK) {
			t.Fatalf("%v: over %v, right %v", u, Over(u), Right(u))
		}
		same(t, "Cancel", u, told(Cancel(u)), cancelModel(u))
		for _, had := range []bool{false, true} {
			same(t, "Arm", u, told(Arm(u, had)), armModel(u, had))
		}
		for _, key := range sizes() {
			for _, was := range sizes() {
				same(t, "Drop", u, told(Drop(u, key, was)), dropModel(u, key, was))
			}
		}
	}
}

// P11.1, P11.3: Put likewise, on fewer uses.
func TestPutEdges(t *testing.T) {
	for _, u := range []Use{{}, {0, 1, 0}, {1, 0, 0}, {1, 1, 0}, {1, 2, 1}, {2, 3999, 50}, {2, 4000, 50}, {99, 2000, 0}, {100, 2000, 0}, {100, 4000, 50}, {101, 4000, 50}, {-1, 0, 0}} {
		for _, key := range sizes() {
			for _, was := range sizes() {
				for _, value := range sizes() {
					for _, had := range []bool{false, true} {
						same(t, "Put", u, told(Put(u, had, key, was, value)), putModel(u, had, key, was, value))
					}
				}
			}
		}
	}
}

// same says that an answer is what it should be, and is right without an error; with one, it is nothing.
func same(t *testing.T, what string, u Use, got, want answer) {
	t.Helper()
	if got != want {
		t.Fatalf("%s of %v: %v, want %v", what, u, got, want)
	}
	if got.e == api.OK && !Right(got.u) || got.e != api.OK && got.u != (Use{}) {
		t.Fatalf("%s of %v: %v is not right", what, u, got)
	}
}

// P11.2: what is taken away behind it was put leaves the use as it was.
func TestBack(t *testing.T) {
	n := 0
	for _, u := range uses() {
		for _, key := range sizes() {
			for _, value := range sizes() {
				if v, e := Put(u, false, key, 0, value); e == api.OK {
					back(t, "Put and Drop", u, told(Drop(v, key, value)))
					n++
				}
				if v, e := Drop(u, key, value); e == api.OK {
					back(t, "Drop and Put", u, told(Put(v, false, key, 0, value)))
					n++
				}
			}
		}
		if v, e := Arm(u, false); e == api.OK {
			back(t, "Arm and Cancel", u, told(Cancel(v)))
		}
		if v, e := Cancel(u); e == api.OK {
			back(t, "Cancel and Arm", u, told(Arm(v, false)))
		}
	}
	if n == 0 {
		t.Errorf("nothing was put")
	}
}

// P11.2: a value that is put back behind another one was put leaves the use as it was; so does an arming anew.
func TestPutBack(t *testing.T) {
	n := 0
	for _, u := range []Use{{1, 0, 0}, {1, 1, 0}, {1, 2, 1}, {2, 3999, 50}, {2, 4000, 50}, {99, 2000, 0}, {100, 2000, 1}, {100, 4000, 50}} {
		for _, key := range sizes() {
			for _, was := range sizes() {
				for _, value := range sizes() {
					if v, e := Put(u, true, key, was, value); e == api.OK {
						back(t, "Put and Put", u, told(Put(v, true, key, value, was)))
						n++
					}
				}
			}
		}
		if u.Timers > 0 {
			back(t, "Arm", u, told(Arm(u, true)))
		}
	}
	if n == 0 {
		t.Errorf("nothing was put")
	}
}

// back says that a use is as it was.
func back(t *testing.T, what string, u Use, got answer) {
	t.Helper()
	if got != (answer{u, api.OK}) {
		t.Fatalf("%s of %v: %v", what, u, got)
	}
}

// P11.1: keys put one by one are the use of all of them, up to the first that is too much.
func TestOneByOne(t *testing.T) {
	r := rand.New(rand.NewSource(11))
	for range 300 {
		most := 1 + r.Intn(80)
		var keys, values []int
		u := Use{}
		for {
			key, value := r.Intn(api.MaxName+1), r.Intn(most)
			v, e := Put(u, false, key, 0, value)
			keys, values = append(keys, key), append(values, value)
			all := Of(keys, values, 0)
			if e != Over(all) || e == api.OK && v != all {
				t.Fatalf("%d keys: %v, %v, want %v", len(keys), v, e, all)
			}
			if e != api.OK {
				break
			}
			u = v
		}
		if len(keys) < 50 {
			t.Errorf("only %d keys", len(keys))
		}
	}
}

// shard is one told in the plainest way: the bytes of keys and of their values by names, and timers' names.
type shard struct {
	keys   map[int][2]int
	timers map[int]bool
	most   int // bytes of a value
}

// use is how much is used of it.
func (s *shard) use() Use {
	u := Use{Keys: len(s.keys), Timers: len(s.timers)}
	for _, n := range s.keys {
		u.Room += n[0] + n[1]
	}
	return u
}

// step does one thing of chance to the shard, unless it would be too much then, and tells what the use is behind it.
func (s *shard) step(r *rand.Rand, u Use) (answer, answer) {
	name := r.Intn(120)
	key := 1 + name%api.MaxName
	old, had := s.keys[name]
	n := r.Intn(s.most + 1)
	switch r.Intn(7) {
	case 0, 1, 6:
		s.keys[name] = [2]int{key, n}
		want := amountOf(s.use()).tell()
		if want.e != api.OK {
			delete(s.keys, name)
			if had {
				s.keys[name] = old
			}
		}
		return told(Put(u, had, key, old[1], n)), want
	case 2:
		if had {
			delete(s.keys, name)
			return told(Drop(u, key, old[1])), answer{s.use(), api.OK}
		}
	case 3, 4:
		name %= 60
		was := s.timers[name]
		s.timers[name] = true
		want := amountOf(s.use()).tell()
		if want.e != api.OK {
			delete(s.timers, name)
		}
		return told(Arm(u, was)), want
	default:
		name %= 60
		if s.timers[name] {
			delete(s.timers, name)
			return told(Cancel(u)), answer{s.use(), api.OK}
		}
	}
	return answer{u, api.OK}, answer{s.use(), api.OK}
}

// P11.1, P11.2, P11.3: scripts of chance against a shard whose keys and timers are counted anew behind each step.
func TestScripts(t *testing.T) {
	seen := map[api.Errno]int{}
	for seed := range int64(40) {
		r := rand.New(rand.NewSource(seed))
		s := &shard{map[int][2]int{}, map[int]bool{}, []int{10, 40, 60, 100}[seed%4]}
		u := Use{}
		for i := range 2000 {
			got, want := s.step(r, u)
			if got != want {
				t.Fatalf("seed %d, step %d, of %v: %v, want %v", seed, i, u, got, want)
			}
			seen[got.e]++
			if got.e == api.OK {
				u = got.u
			}
		}
	}
	for _, e := range []api.Errno{api.OK, api.ErrKeys, api.ErrRoom, api.ErrTimers} {
		if seen[e] == 0 {
			t.Errorf("error %v: never", e)
		}
	}
}

// number is one of chance: near 0, near a bound, or any.
func number(r *rand.Rand, bound int) int {
	switch r.Intn(4) {
	case 0:
		return r.Intn(6) - 2
	case 1:
		return bound - 2 + r.Intn(5)
	case 2:
		return r.Intn(bound + 1)
	}
	return int(r.Uint64())
}

// P1, P2, P11.1: numbers of chance, told alike twice, held against numbers without end.
func TestChance(t *testing.T) {
	r := rand.New(rand.NewSource(3))
	for range 200000 {
		u := Use{number(r, api.MaxKeys), number(r, api.MaxRoom), number(r, api.MaxTimers)}
		if r.Intn(3) > 0 {
			u = Use{r.Intn(101), r.Intn(4001), r.Intn(51)}
		}
		had, key, was, value := r.Intn(2) > 0, number(r, api.MaxRoom), number(r, api.MaxRoom), number(r, api.MaxRoom)
		for range 2 {
			all(t, u, had, key, was, value)
		}
	}
}

// all does all calls on a use.
func all(t *testing.T, u Use, had bool, key, was, value int) {
	t.Helper()
	same(t, "Put", u, told(Put(u, had, key, was, value)), putModel(u, had, key, was, value))
	same(t, "Drop", u, told(Drop(u, key, was)), dropModel(u, key, was))
	same(t, "Arm", u, told(Arm(u, had)), armModel(u, had))
	same(t, "Cancel", u, told(Cancel(u)), cancelModel(u))
}

// P11.1: lists of chance against the plainest count.
func TestOfChance(t *testing.T) {
	r := rand.New(rand.NewSource(4))
	for range 3000 {
		var lists [2][]int
		for i := range lists {
			for range r.Intn(12) {
				lists[i] = append(lists[i], number(r, api.MaxRoom))
			}
		}
		timers := number(r, api.MaxTimers)
		of(t, lists[0], lists[1], timers, ofModel(lists[0], lists[1], timers))
	}
}

// P11.1, P1: whatever numbers there are.
func FuzzCalls(f *testing.F) {
	f.Add(2, 10, 1, true, 3, 4, 1)
	f.Add(100, 4000, 50, false, 0, 0, 0)
	f.Add(101, -1, 51, true, 4001, -1, greatest)
	f.Fuzz(func(t *testing.T, keys, room, timers int, had bool, key, was, value int) {
		all(t, Use{keys, room, timers}, had, key, was, value)
		of(t, []int{key, was}, []int{value, room}, timers, ofModel([]int{key, was}, []int{value, room}, timers))
	})
}
