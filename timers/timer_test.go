package timers

import (
	"math/big"
	"math/rand"
	"slices"
	"testing"

	"belfry/api"
)

// P10.1: which timers are right.
func TestRight(t *testing.T) {
	step := api.Step{Kind: api.Drop, Key: "k"}
	for name, change := range map[string]func(*api.Timer){
		"as it is":                 func(y *api.Timer) {},
		"Name of 1 byte":           func(y *api.Timer) { y.Name = "b" },
		"Name of a nought":         func(y *api.Timer) { y.Name = "\x00" },
		"Name that is no UTF-8":    func(y *api.Timer) { y.Name = "\xff\xc3\x28" },
		"Name of 15 bytes":         func(y *api.Timer) { y.Name = long(api.MaxName - 1) },
		"Name of MaxName bytes":    func(y *api.Timer) { y.Name = long(api.MaxName) },
		"Name of runes":            func(y *api.Timer) { y.Name = "ääääääää" },
		"Version 1":                func(y *api.Timer) { y.Version = 1 },
		"Version 2":                func(y *api.Timer) { y.Version = 2 },
		"Version beyond 32 bits":   func(y *api.Timer) { y.Version = 1 << 33 },
		"Version MaxNumber less 1": func(y *api.Timer) { y.Version = api.MaxNumber - 1 },
		"Version MaxNumber":        func(y *api.Timer) { y.Version = api.MaxNumber },
		"At 0":                     func(y *api.Timer) { y.At = 0 },
		"At MaxTick less 1":        func(y *api.Timer) { y.At = api.MaxTick - 1 },
		"At MaxTick":               func(y *api.Timer) { y.At = api.MaxTick },
		"Every 0":                  func(y *api.Timer) { y.Every = 0 },
		"Every 1":                  func(y *api.Timer) { y.Every = 1 },
		"Every MaxTick":            func(y *api.Timer) { y.Every = api.MaxTick },
		"At and Every MaxTick":     func(y *api.Timer) { y.At, y.Every = api.MaxTick, api.MaxTick },
		"Do nil":                   func(y *api.Timer) { y.Do = nil },
		"Do of no step":            func(y *api.Timer) { y.Do = []api.Step{} },
		"Do of a step":             func(y *api.Timer) { y.Do = []api.Step{step} },
		"Do of MaxSteps":           func(y *api.Timer) { y.Do = slices.Repeat([]api.Step{step}, api.MaxSteps) },
		"Do of each kind": func(y *api.Timer) {
			y.Do = []api.Step{{Kind: api.Put, Key: "k", Value: long(api.MaxValue)}, {Kind: api.Drop, Key: long(api.MaxName)}, {Kind: api.Add, Key: "n", N: least}, {Kind: api.Cancel, Key: y.Name}}
		},
		"wrong steps behind Do's length": func(y *api.Timer) { y.Do = slices.Repeat([]api.Step{step, {}}, 9)[:1] },
	} {
		y := timer("bell", 5, 3)
		change(&y)
		if !Right(y) {
			t.Errorf("%s: %v is not right", name, y)
		}
		if e := New(0).Set(y); e != api.OK {
			t.Errorf("%s: Set(%v): %v", name, y, e)
		}
	}
}

// spoils are what makes a right timer wrong, by what is wrong.
func spoils() map[string]func(*api.Timer) {
	step := api.Step{Kind: api.Drop, Key: "k"}
	l := map[string]func(*api.Timer){
		"Name of no byte":            func(y *api.Timer) { y.Name = "" },
		"Name of a byte too many":    func(y *api.Timer) { y.Name = long(api.MaxName + 1) },
		"Name of 256 and more":       func(y *api.Timer) { y.Name = long(257) },
		"Name of too many for runes": func(y *api.Timer) { y.Name = "äääääääää" },
		"Version 0":                  func(y *api.Timer) { y.Version = 0 },
		"Version below 0":            func(y *api.Timer) { y.Version = -1 },
		"Version MaxNumber and 1":    func(y *api.Timer) { y.Version = api.MaxNumber + 1 },
		"the least Version":          func(y *api.Timer) { y.Version = least },
		"the greatest Version":       func(y *api.Timer) { y.Version = greatest },
		"At MaxTick and 1":           func(y *api.Timer) { y.At = api.MaxTick + 1 },
		"At beyond 63 bits":          func(y *api.Timer) { y.At = 1 << 63 },
		"At the greatest tick":       func(y *api.Timer) { y.At = top },
		"Every MaxTick and 1":        func(y *api.Timer) { y.Every = api.MaxTick + 1 },
		"Every beyond 63 bits":       func(y *api.Timer) { y.Every = 1 << 63 },
		"Every the greatest tick":    func(y *api.Timer) { y.Every = top },
		"Do of a step too many":      func(y *api.Timer) { y.Do = slices.Repeat([]api.Step{step}, api.MaxSteps+1) },
		"Do of many steps":           func(y *api.Timer) { y.Do = slices.Repeat([]api.Step{step}, 1<<12) },
		"Do of 256 steps":            func(y *api.Timer) { y.Do = slices.Repeat([]api.Step{step}, 256) },
	}
	for what, wrong := range map[string]api.Step{
		"a step of nothing":        {},
		"a step of a wrong kind":   {Kind: 5, Key: "k"},
		"a step without a Key":     {Kind: api.Drop},
		"a step of a long Key":     {Kind: api.Cancel, Key: long(api.MaxName + 1)},
		"a step of a long Value":   {Kind: api.Put, Key: "k", Value: long(api.MaxValue + 1)},
		"a Put with an N":          {Kind: api.Put, Key: "k", N: 1},
		"a Cancel with a Value":    {Kind: api.Cancel, Key: "k", Value: "v"},
		"an Add with a Value":      {Kind: api.Add, Key: "k", Value: "1"},
		"a Drop with an N":         {Kind: api.Drop, Key: "k", N: -1},
		"a step of a kind below 0": {Kind: -1, Key: "k"},
	} {
		l["Do of "+what] = func(y *api.Timer) { y.Do = []api.Step{wrong} }
		l["Do that begins with "+what] = func(y *api.Timer) { y.Do = []api.Step{wrong, step, step, step} }
		l["Do that ends with "+what] = func(y *api.Timer) { y.Do = []api.Step{step, step, step, wrong} }
	}
	return l
}

// P10.1: which timers are not right; Set refuses them, and nothing changes.
func TestNotRight(t *testing.T) {
	for name, spoil := range spoils() {
		for _, at := range []uint64{0, 5, 20} {
			y := timer("bell", at, 3)
			spoil(&y)
			if Right(y) {
				t.Errorf("%s: right", name)
			}
			x := tableOf(t, 5, timer("bell", 9, 0), timer("due", 5, 0))
			if e := x.Set(y); e != api.ErrTimer {
				t.Errorf("%s: Set: %v", name, e)
			}
			holds(t, x, 5, timer("bell", 9, 0), timer("due", 5, 0))
			x = New(5)
			x.Set(y)
			holds(t, x, 5)
		}
	}
	if Right(api.Timer{}) {
		t.Error("nothing is right")
	}
}

// afterCase is a timer's deadline and how often it comes again, the clock, and
// the deadline that it has behind it, or none.
type afterCase struct {
	name           string
	at, every, now uint64
	want           uint64
	none           bool
}

func afterCases() []afterCase {
	const most = api.MaxTick
	return []afterCase{
		{name: "once, clock below", at: 5, now: 4, want: 5},
		{name: "once, clock far below", at: most, now: 0, want: most},
		{name: "once, clock at it", at: 5, now: 5, none: true},
		{name: "once, clock just beyond", at: 5, now: 6, none: true},
		{name: "once, the greatest clock", at: 5, now: top, none: true},
		{name: "once at 0", none: true},
		{name: "again, clock below", at: 5, every: 3, now: 4, want: 5},
		{name: "again, clock 0", at: 5, every: 3, now: 0, want: 5},
		{name: "again, clock at it", at: 5, every: 3, now: 5, want: 8},
		{name: "again, just beyond", at: 5, every: 3, now: 6, want: 8},
		{name: "again, just below the next", at: 5, every: 3, now: 7, want: 8},
		{name: "again, at the next", at: 5, every: 3, now: 8, want: 11},
		{name: "again, just beyond the next", at: 5, every: 3, now: 9, want: 11},
		{name: "the document's second example", at: 5, every: 3, now: 11, want: 14},
		{name: "the document's fifth example", at: 12, every: 5, now: 20, want: 22},
		{name: "every tick, clock at it", at: 5, every: 1, now: 5, want: 6},
		{name: "every tick, clock beyond", at: 5, every: 1, now: 1000, want: 1001},
		{name: "every tick from 0", at: 0, every: 1, now: 0, want: 1},
		{name: "far beyond", at: 1, every: 7, now: 7_000_000_000_000, want: 7_000_000_000_001},
		{name: "the next is MaxTick", at: most - 3, every: 3, now: most - 3, want: most},
		{name: "the next is MaxTick, just below", at: most - 3, every: 3, now: most - 1, want: most},
		{name: "the next is above MaxTick", at: most - 3, every: 3, now: most, none: true},
		{name: "the next is MaxTick and 1", at: most - 3, every: 4, now: most - 3, none: true},
		{name: "the next is MaxTick and 1, clock below", at: most - 3, every: 4, now: most - 4, want: most - 3},
		{name: "every tick, clock just below MaxTick", at: 0, every: 1, now: most - 1, want: most},
		{name: "every tick, clock at MaxTick", at: 0, every: 1, now: most, none: true},
		{name: "every tick, clock above MaxTick", at: 0, every: 1, now: most + 1, none: true},
		{name: "at MaxTick once, just below", at: most, now: most - 1, want: most},
		{name: "at MaxTick once", at: most, now: most, none: true},
		{name: "at MaxTick again, just below", at: most, every: 1, now: most - 1, want: most},
		{name: "at MaxTick again", at: most, every: 1, now: most, none: true},
		{name: "as seldom as can be, from 0", at: 0, every: most, now: 0, want: most},
		{name: "as seldom as can be, from 1", at: 1, every: most, now: 1, none: true},
		{name: "as seldom as can be, clock at MaxTick", at: 0, every: most, now: most, none: true},
		{name: "just beyond the half", at: 1, every: most/2 - 1, now: most / 2, want: most - 1},
		{name: "the next is the greatest tick", at: 0, every: 1, now: top - 1, none: true},
		{name: "the next is beyond 64 bits", at: 0, every: 1, now: top, none: true},
		{name: "the next, far, is beyond 64 bits", at: most, every: most, now: 3*most + 5, none: true},
		{name: "64 bits wrap to a small one", at: 3, every: 5, now: top, none: true},
		{name: "At above MaxTick, clock below", at: most + 1, now: 0, none: true},
		{name: "At above MaxTick, clock beyond", at: most + 1, every: 1, now: most + 5, none: true},
		{name: "At the greatest tick", at: top, now: 0, none: true},
		{name: "Every above MaxTick", at: 0, every: most + 1, now: 0, none: true},
		{name: "Every above MaxTick, clock below", at: 5, every: top, now: 4, want: 5},
		{name: "Every the greatest tick", at: 5, every: top, now: 5, none: true},
	}
}

// P10.1, P10.3: deadlines behind a firing; all else of the timer stays.
func TestAfter(t *testing.T) {
	for _, c := range afterCases() {
		y := api.Timer{Name: "bell", Version: 7, At: c.at, Every: c.every, Do: steps()}
		want := y
		want.At = c.want
		if c.none {
			want = api.Timer{}
		}
		got, is := After(y, c.now)
		if is == c.none || !same(got, want) || c.none && got.Do != nil {
			t.Errorf("%s: After(%v, %d): %v, %v, want %v", c.name, y, c.now, got, is, want)
		}
		if y.At != c.at || !slices.Equal(y.Do, steps()) {
			t.Errorf("%s: the timer handed in is %v", c.name, y)
		}
		if is && Right(y) && !Right(got) {
			t.Errorf("%s: %v was right, %v is not", c.name, y, got)
		}
	}
}

// P10.1: all else of a timer stays, at its edges, and where it isn't right, too.
func TestAfterLeavesAllElse(t *testing.T) {
	for _, y := range []api.Timer{
		{Name: "a", Version: 1, Every: 4},
		{Name: long(api.MaxName), Version: api.MaxNumber, Every: 4, Do: slices.Repeat(steps(), 2)},
		{Name: "\x00\xff", Version: 1 << 39, Every: 4, Do: []api.Step{{Kind: api.Cancel, Key: "\x00\xff"}}},
		{Every: 4},
		{Name: long(40), Version: -3, Every: 4, Do: slices.Repeat([]api.Step{{Kind: 9, Value: "v"}}, 12)},
	} {
		got, is := After(y, 9)
		y.At = 12
		if !is || !same(got, y) {
			t.Errorf("After: %v, %v, want %v", got, is, y)
		}
	}
}

// modelAfter goes through the occurrences one by one, in numbers without end.
func modelAfter(at, every, now uint64) (uint64, bool) {
	next, step := new(big.Int).SetUint64(at), new(big.Int).SetUint64(every)
	for next.Cmp(new(big.Int).SetUint64(now)) <= 0 {
		if every == 0 {
			return 0, false
		}
		next.Add(next, step)
	}
	if next.Cmp(big.NewInt(api.MaxTick)) > 0 {
		return 0, false
	}
	return next.Uint64(), true
}

// afterIs holds After against the occurrences one by one.
func afterIs(t *testing.T, at, every, now uint64) {
	t.Helper()
	want, wantIs := modelAfter(at, every, now)
	got, is := After(timer("bell", at, every), now)
	if is != wantIs || got.At != want {
		t.Fatalf("After(%d every %d, %d): %v, %v, want %d, %v", at, every, now, got, is, want, wantIs)
	}
}

// P10.1, P10.3: all small numbers, and all near MaxTick, the middle and the end of all ticks.
func TestAfterOneByOne(t *testing.T) {
	for at := range uint64(14) {
		for every := range uint64(9) {
			for now := range uint64(40) {
				afterIs(t, at, every, now)
				for _, base := range []uint64{api.MaxTick - 20, 1 << 32, top - 50} {
					afterIs(t, base+at, every, base+now)
				}
				afterIs(t, at, api.MaxTick/2-4+every, api.MaxTick/2-10+now)
				afterIs(t, at, api.MaxTick-4+every, api.MaxTick-20+now)
			}
		}
	}
}

// P10.1, P10.3: numbers of chance, of all lengths.
func TestAfterOfChance(t *testing.T) {
	r := rand.New(rand.NewSource(20))
	for range 20000 {
		every := r.Uint64()%api.MaxTick>>r.Intn(62) + 1
		at := r.Uint64() >> (2 + r.Intn(62))
		// Else too many occurrences would be gone through.
		now := at + every*uint64(r.Intn(20)) + uint64(r.Int63())%every
		afterIs(t, at, every, now)
		afterIs(t, at, 0, now)
	}
}

// P10.3: from firing to firing at its deadline nothing is left out; with later
// clocks nothing but what the clock passed.
func TestNothingIsLeftOut(t *testing.T) {
	r := rand.New(rand.NewSource(21))
	for at := range uint64(7) {
		for every := uint64(1); every < 7; every++ {
			y := timer("bell", at, every)
			for i := range uint64(50) {
				if y.At != at+i*every {
					t.Fatalf("occurrence %d of %d every %d is %d", i, at, every, y.At)
				}
				y, _ = After(y, y.At)
			}
			for range 50 {
				now := y.At + uint64(r.Intn(20))
				z, is := After(y, now)
				if !is || z.At <= now || z.At-every > now || (z.At-at)%every != 0 {
					t.Fatalf("%v, fired at %d: %v, %v", y, now, z, is)
				}
				y = z
			}
		}
	}
}

// P10.1: what After answers stands apart from what it was given.
func TestAfterApart(t *testing.T) {
	room := append(steps(), api.Step{Kind: api.Drop, Key: "behind"})
	y := timer("bell", 5, 3)
	y.Do = room[:2]
	z, _ := After(y, 5)
	z.Do[0].Key = "turned"
	_ = append(z.Do, api.Step{Kind: api.Cancel, Key: "x"})
	if !slices.Equal(y.Do, steps()) || room[2].Key != "behind" {
		t.Errorf("the timer handed in is %v, behind it %v", y, room[2])
	}
	z, _ = After(y, 5)
	y.Do[1].N = 99
	if !slices.Equal(z.Do, steps()) {
		t.Errorf("the answer is %v", z)
	}
}
