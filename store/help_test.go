package store

import (
	"math"
	"slices"
	"strconv"
	"strings"
	"testing"

	"belfry/api"
	"belfry/quota"
	"belfry/trie"
)

const (
	top      = math.MaxUint64
	greatest = math.MaxInt
	least    = math.MinInt
)

// hasKey, noKey, hasTimer and noTimer are changes of each kind.
func hasKey(key, value string) api.Change {
	return api.Change{Kind: api.HasKey, Key: key, Value: value}
}

func noKey(key string) api.Change {
	return api.Change{Kind: api.NoKey, Key: key}
}

func hasTimer(t api.Timer) api.Change {
	return api.Change{Kind: api.HasTimer, Timer: t}
}

func noTimer(name string) api.Change {
	return api.Change{Kind: api.NoTimer, Key: name}
}

// changes are a list of them.
func changes(l ...api.Change) []api.Change {
	return l
}

// timer is a right one, with two steps of its own.
func timer(name string, version int, at, every uint64) api.Timer {
	return api.Timer{Name: name, Version: version, At: at, Every: every, Do: []api.Step{{Kind: api.Put, Key: "k", Value: "v"}, {Kind: api.Add, Key: "n", N: -1}}}
}

// bare is a right timer without steps.
func bare(name string, version int) api.Timer {
	return api.Timer{Name: name, Version: version, At: 100}
}

// long is a text of n bytes.
func long(n int) string {
	return strings.Repeat("x", n)
}

// key is a text of its own for each number.
func key(i int) string {
	return "k" + strconv.Itoa(i)
}

// sameTimer says whether two timers are the same, in all their fields.
func sameTimer(a, b api.Timer) bool {
	return a.Name == b.Name && a.Version == b.Version && a.At == b.At && a.Every == b.Every && slices.Equal(a.Do, b.Do)
}

// same says whether two changes are the same, in all their fields.
func same(a, b api.Change) bool {
	return a.Kind == b.Kind && a.Key == b.Key && a.Value == b.Value && sameTimer(a.Timer, b.Timer)
}

// apart is a list of changes that shares nothing with another one.
func apart(l []api.Change) []api.Change {
	l = slices.Clone(l)
	for i := range l {
		l[i].Timer.Do = slices.Clone(l[i].Timer.Do)
	}
	return l
}

// storeOf has done changes.
func storeOf(t *testing.T, now uint64, l ...api.Change) *Store {
	t.Helper()
	s := New(now)
	if undo, e := s.Do(l); e != api.OK {
		t.Fatalf("Do(%v): %v, %v", l, undo, e)
	}
	return s
}

// does does changes, and says which ones should undo them.
func does(t *testing.T, s *Store, l []api.Change, undo ...api.Change) {
	t.Helper()
	got, e := s.Do(l)
	if e != api.OK || !slices.EqualFunc(got, undo, same) {
		t.Errorf("Do(%v): %v, %v, want %v", l, got, e, undo)
	}
}

// refuses does changes with an error, and says that all stays.
func refuses(t *testing.T, s *Store, l []api.Change, want api.Errno) {
	t.Helper()
	before := told(s)
	if undo, e := s.Do(l); e != want || len(undo) != 0 {
		t.Errorf("Do of %d changes: %v, %v, want %v", len(l), undo, e, want)
	}
	before.isOf(t, s)
}

// account is all that a store tells.
type account struct {
	keys    []trie.Entry
	timers  []api.Timer
	due     []api.Timer
	clock   uint64
	soonest uint64
	use     quota.Use
	version int
	bytes   string
}

// told is what a store tells now.
func told(s *Store) account {
	x := s.Timers()
	soonest, _ := x.Soonest()
	return account{s.Keys(), x.All(), x.Due(), x.Clock(), soonest, s.Use(), s.Version(), string(s.Bytes())}
}

// isOf says that a store tells just this.
func (a account) isOf(t *testing.T, s *Store) {
	t.Helper()
	b := told(s)
	if !slices.Equal(a.keys, b.keys) || a.use != b.use || a.version != b.version || a.bytes != b.bytes {
		t.Errorf("the store has %v, %v, version %d, bytes %q; want %v, %v, %d, %q", b.keys, b.use, b.version, b.bytes, a.keys, a.use, a.version, a.bytes)
	}
	if !slices.EqualFunc(a.timers, b.timers, sameTimer) || !slices.EqualFunc(a.due, b.due, sameTimer) || a.clock != b.clock || a.soonest != b.soonest {
		t.Errorf("the store has %v, due %v, clock %d, soonest %d; want %v, %v, %d, %d", b.timers, b.due, b.clock, b.soonest, a.timers, a.due, a.clock, a.soonest)
	}
}

// has says which keys, with their values, and which timers a store has, by
// rising names, and which version comes next; its use is worked out from these.
func has(t *testing.T, s *Store, version int, pairs []string, all ...api.Timer) {
	t.Helper()
	var entries []trie.Entry
	use := quota.Use{Timers: len(all)}
	for pair := range slices.Chunk(pairs, 2) {
		entries = append(entries, trie.Entry{Key: pair[0], Value: pair[1]})
		use.Keys, use.Room = use.Keys+1, use.Room+len(pair[0]+pair[1])
		if value, is := s.Get(pair[0]); value != pair[1] || !is {
			t.Errorf("Get(%q): %q, %v, want %q", pair[0], value, is, pair[1])
		}
	}
	if got := s.Keys(); !slices.Equal(got, entries) {
		t.Errorf("Keys: %q, want %q", got, entries)
	}
	if got := s.Timers().All(); !slices.EqualFunc(got, all, sameTimer) {
		t.Errorf("timers: %v, want %v", got, all)
	}
	if s.Use() != use || s.Version() != version {
		t.Errorf("Use %v, Version %d, want %v, %d", s.Use(), s.Version(), use, version)
	}
}

// advances moves the clock, and says which timers became due.
func advances(t *testing.T, s *Store, now uint64, names ...string) {
	t.Helper()
	if l := s.Advance(now); !slices.Equal(l, names) {
		t.Errorf("Advance(%d): %q, want %q", now, l, names)
	}
}

// names are those of timers, in their order.
func names(l []api.Timer) []string {
	var names []string
	for _, t := range l {
		names = append(names, t.Name)
	}
	return names
}

// manyKeys put so many keys, each with a value of so many bytes; the keys have
// so many bytes, too.
func manyKeys(n, size, value int) []api.Change {
	var l []api.Change
	for i := range n {
		text := strconv.Itoa(1_000_000 + i)
		l = append(l, hasKey(long(size-len(text))+text, long(value)))
	}
	return l
}

// manyTimers lay so many timers.
func manyTimers(n int) []api.Change {
	var l []api.Change
	for i := range n {
		l = append(l, hasTimer(bare(key(i), 1)))
	}
	return l
}

// rightTimers are right ones, at all edges.
func rightTimers() []api.Timer {
	l := []api.Timer{timer("bell", 1, 9, 2), {Name: "a", Version: 1}, {Name: "a", Version: 1, Do: []api.Step{}}}
	for _, name := range []string{"a", "\x00", "\xff", "ä", long(api.MaxName)} {
		for _, version := range []int{1, 2, 255, 256, api.MaxNumber - 1, api.MaxNumber} {
			l = append(l, timer(name, version, uint64(version), 0))
		}
	}
	for _, tick := range []uint64{0, 1, 255, 256, 1 << 32, api.MaxTick - 1, api.MaxTick} {
		l = append(l, timer("t", 1, tick, 3), timer("t", 1, 3, tick), timer("t", 7, tick, tick))
	}
	most := []api.Step{{Kind: api.Put, Key: long(api.MaxName), Value: long(api.MaxValue)}, {Kind: api.Drop, Key: "a"}, {Kind: api.Add, Key: "n", N: math.MinInt64}, {Kind: api.Cancel, Key: "t"}}
	return append(l, api.Timer{Name: "t", Version: 1, Do: most[:1]}, api.Timer{Name: "t", Version: 1, Do: most}, api.Timer{Name: "t", Version: 1, Do: slices.Repeat(most[:1], 4)})
}

// wrongTimers are wrong ones, by what is wrong.
func wrongTimers() map[string]api.Timer {
	put := api.Step{Kind: api.Put, Key: "k", Value: "v"}
	return map[string]api.Timer{
		"nothing":                {},
		"no name":                timer("", 1, 9, 2),
		"a long name":            timer(long(api.MaxName+1), 1, 9, 2),
		"version 0":              timer("t", 0, 9, 2),
		"version -1":             timer("t", -1, 9, 2),
		"the least version":      timer("t", least, 9, 2),
		"a version above":        timer("t", api.MaxNumber+1, 9, 2),
		"the greatest version":   timer("t", greatest, 9, 2),
		"a deadline above":       timer("t", 1, api.MaxTick+1, 2),
		"the greatest deadline":  timer("t", 1, top, 2),
		"an Every above":         timer("t", 1, 9, api.MaxTick+1),
		"the greatest Every":     timer("t", 1, 9, top),
		"too many steps":         {Name: "t", Version: 1, At: 9, Do: slices.Repeat([]api.Step{put}, 5)},
		"a step of kind 0":       {Name: "t", Version: 1, At: 9, Do: []api.Step{{}}},
		"a step without a key":   {Name: "t", Version: 1, At: 9, Do: []api.Step{put, {Kind: api.Drop}}},
		"a step of a long value": {Name: "t", Version: 1, At: 9, Do: []api.Step{{Kind: api.Put, Key: "k", Value: long(api.MaxValue + 1)}}},
		"a step of kind 5":       {Name: "t", Version: 1, At: 9, Do: []api.Step{put, {Kind: 5, Key: "k"}}},
	}
}

// rightChanges are right ones of all kinds, at all edges.
func rightChanges() []api.Change {
	var l []api.Change
	for _, key := range []string{"a", "\x00", "\xff", "k\xc3\x28", " ", "ä", long(api.MaxName - 1), long(api.MaxName)} {
		l = append(l, noKey(key), noTimer(key))
		for _, value := range []string{"", "\x00", "v", "\xff\xfe", "-12", long(api.MaxValue - 1), long(api.MaxValue)} {
			l = append(l, hasKey(key, value))
		}
	}
	for _, t := range rightTimers() {
		l = append(l, hasTimer(t))
	}
	none := hasKey("a", "v")
	none.Timer.Do = []api.Step{}
	return append(l, none)
}

// wrongChanges are wrong ones, by what is wrong.
func wrongChanges() map[string]api.Change {
	l := map[string]api.Change{
		"nothing":                       {},
		"HasKey without a key":          hasKey("", "v"),
		"NoKey without a key":           noKey(""),
		"NoTimer without a key":         noTimer(""),
		"HasKey of a long key":          hasKey(long(api.MaxName+1), "v"),
		"NoKey of a long key":           noKey(long(api.MaxName + 1)),
		"NoTimer of a long key":         noTimer(long(api.MaxName + 1)),
		"HasKey of a very long key":     hasKey(long(300), "v"),
		"HasKey of a long value":        hasKey("a", long(api.MaxValue+1)),
		"HasKey of a very long value":   hasKey("a", long(5000)),
		"NoKey with a value":            {Kind: api.NoKey, Key: "a", Value: "v"},
		"NoTimer with a value":          {Kind: api.NoTimer, Key: "a", Value: "v"},
		"HasTimer with a key":           {Kind: api.HasTimer, Key: "t", Timer: timer("t", 1, 9, 2)},
		"HasTimer with a value":         {Kind: api.HasTimer, Value: "v", Timer: timer("t", 1, 9, 2)},
		"HasTimer with both":            {Kind: api.HasTimer, Key: "t", Value: "v", Timer: timer("t", 1, 9, 2)},
		"HasTimer with a key for all":   {Kind: api.HasTimer, Key: "t"},
		"NoTimer that names it in both": {Kind: api.NoTimer, Key: "t", Timer: api.Timer{Name: "t"}},
	}
	for _, kind := range []api.ChangeKind{0, 5, 6, -1, 255, 256, 257, 258, 259, 260, api.ChangeKind(least), api.ChangeKind(greatest)} {
		name := "kind " + strconv.Itoa(int(kind))
		l[name+" of a key"] = api.Change{Kind: kind, Key: "a"}
		l[name+" of a value"] = api.Change{Kind: kind, Key: "a", Value: "v"}
		l[name+" of a timer"] = api.Change{Kind: kind, Timer: timer("t", 1, 9, 2)}
	}
	for what, t := range wrongTimers() {
		l["HasTimer: "+what] = hasTimer(t)
	}
	fields := map[string]api.Timer{"name": {Name: "t"}, "version": {Version: 1}, "deadline": {At: 1}, "Every": {Every: 1}, "step": {Do: make([]api.Step, 1)}, "all": timer("t", 1, 9, 2)}
	for what, t := range fields {
		l["HasKey with a timer's "+what] = api.Change{Kind: api.HasKey, Key: "a", Value: "v", Timer: t}
		l["NoKey with a timer's "+what] = api.Change{Kind: api.NoKey, Key: "a", Timer: t}
		l["NoTimer with a timer's "+what] = api.Change{Kind: api.NoTimer, Key: "a", Timer: t}
	}
	return l
}
