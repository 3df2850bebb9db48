package store

import (
	"cmp"
	"maps"
	"math/rand"
	"slices"
	"strconv"
	"testing"

	"belfry/action"
	"belfry/api"
	"belfry/quota"
	"belfry/trie"
)

// field is the bytes of a field.
func field(tag int, data string) string {
	return string([]byte{byte(tag), byte(len(data) / 256), byte(len(data))}) + data
}

// figures are a number's bytes, as few as may be.
func figures(n uint64) string {
	if n == 0 {
		return ""
	}
	return figures(n/256) + string([]byte{byte(n)})
}

// wide is a number in so many bytes.
func wide(n uint64, size int) string {
	if size == 0 {
		return ""
	}
	return wide(n/256, size-1) + string([]byte{byte(n)})
}

// bytesOf is what a change's bytes should be, right or not: a field that is not
// of its kind is there if it is not zero.
func bytesOf(c api.Change) string {
	b := field(1, string([]byte{byte(c.Kind)}))
	if c.Kind == api.HasKey || c.Kind == api.NoKey || c.Kind == api.NoTimer || c.Key != "" {
		b += field(2, c.Key)
	}
	if c.Kind == api.HasKey || c.Value != "" {
		b += field(3, c.Value)
	}
	if c.Kind == api.HasTimer || !sameTimer(c.Timer, api.Timer{}) {
		b += field(4, c.Timer.Name) + field(5, figures(uint64(c.Timer.Version))) + field(6, figures(c.Timer.At)) + field(7, figures(c.Timer.Every)) + field(8, stepsBytes(c.Timer.Do))
	}
	return b
}

// stepsBytes is what steps' bytes should be, right or not.
func stepsBytes(l []api.Step) string {
	b := ""
	for _, s := range l {
		data := string([]byte{byte(len(s.Key))}) + s.Key + s.Value
		if s.Kind == api.Add {
			data += strconv.FormatInt(s.N, 10)
		}
		b += field(int(s.Kind), data)
	}
	return b
}

// modelDecode cuts a change's fields off, one behind another, just as they should stand.
func modelDecode(b string) (api.Change, bool) {
	whole := b
	next := func(tag byte) string {
		if len(b) < 3 || b[0] != tag || len(b) < 3+int(b[1])*256+int(b[2]) {
			b = "\x00"
			return ""
		}
		n := 3 + int(b[1])*256 + int(b[2])
		data := b[3:n]
		b = b[n:]
		return data
	}
	number := func(tag byte) uint64 {
		var n uint64
		for _, digit := range []byte(next(tag)) {
			n = n*256 + uint64(digit)
		}
		return n
	}
	kind := next(1)
	if len(kind) != 1 {
		return api.Change{}, false
	}
	c := api.Change{Kind: api.ChangeKind(kind[0])}
	switch c.Kind {
	case 1:
		c.Key, c.Value = next(2), next(3)
	case 2, 4:
		c.Key = next(2)
	case 3:
		c.Timer = api.Timer{Name: next(4), Version: int(number(5)), At: number(6), Every: number(7)}
		do, e := action.Decode([]byte(next(8)))
		if e != api.OK {
			return api.Change{}, false
		}
		c.Timer.Do = do
	}
	if b != "" || !modelRight(c) || bytesOf(c) != whole {
		return api.Change{}, false
	}
	return c, true
}

// isName tells whether a text is a name.
func isName(s string) bool {
	return 1 <= len(s) && len(s) <= 16
}

// modelRight tells whether a change is right, its steps aside.
func modelRight(c api.Change) bool {
	switch t := c.Timer; c.Kind {
	case 1:
		return isName(c.Key) && len(c.Value) <= 60 && sameTimer(t, api.Timer{})
	case 2, 4:
		return isName(c.Key) && c.Value == "" && sameTimer(t, api.Timer{})
	case 3:
		return c.Key == "" && c.Value == "" && isName(t.Name) && 1 <= t.Version && t.Version <= 1<<40 && t.At <= 1<<62 && t.Every <= 1<<62
	}
	return false
}

// checkChange holds Decode against the model, and P12.1: what is decoded has these bytes.
func checkChange(t *testing.T, b []byte) {
	t.Helper()
	want, is := modelDecode(string(b))
	c, e := Decode(b)
	if !is {
		if e != api.ErrBytes || !same(c, api.Change{}) {
			t.Fatalf("Decode(%q): %v, %v", b, c, e)
		}
		return
	}
	if e != api.OK || !same(c, want) || !Right(c) {
		t.Fatalf("Decode(%q): %v, %v, want %v", b, c, e, want)
	}
	if again, e := Encode(c); e != api.OK || string(again) != string(b) {
		t.Fatalf("Encode(%v): %q, %v, want %q", c, again, e, b)
	}
}

// model is a store told in the plainest way.
type model struct {
	clock   uint64
	version int
	keys    map[string]string
	timers  map[string]api.Timer
}

func newModel(clock uint64) *model {
	return &model{clock, 1, map[string]string{}, map[string]api.Timer{}}
}

// copied is the same model, apart.
func (m *model) copied() *model {
	return &model{m.clock, m.version, maps.Clone(m.keys), maps.Clone(m.timers)}
}

// entries are the keys in order.
func (m *model) entries() []trie.Entry {
	var l []trie.Entry
	for _, key := range slices.Sorted(maps.Keys(m.keys)) {
		l = append(l, trie.Entry{Key: key, Value: m.keys[key]})
	}
	return l
}

// all are the timers by their names.
func (m *model) all() []api.Timer {
	return slices.SortedFunc(maps.Values(m.timers), func(a, b api.Timer) int { return cmp.Compare(a.Name, b.Name) })
}

// between are the timers with deadlines above one tick and up to another one, by deadlines, then names.
func (m *model) between(above bool, low, high uint64) []api.Timer {
	l := slices.DeleteFunc(m.all(), func(t api.Timer) bool { return above && t.At <= low || t.At > high })
	slices.SortStableFunc(l, func(a, b api.Timer) int { return cmp.Compare(a.At, b.At) })
	return l
}

// use counts everything anew.
func (m *model) use() quota.Use {
	u := quota.Use{Keys: len(m.keys), Timers: len(m.timers)}
	for key, value := range m.keys {
		u.Room += len(key) + len(value)
	}
	return u
}

// do does changes, and tells what undoes them.
func (m *model) do(l []api.Change) ([]api.Change, api.Errno) {
	for _, c := range l {
		if !modelRight(c) {
			return nil, api.ErrState
		}
	}
	next := m.copied()
	var undo []api.Change
	for _, c := range l {
		undo = slices.Concat(next.undo(c), undo)
		switch c.Kind {
		case api.HasKey:
			next.keys[c.Key] = c.Value
		case api.NoKey:
			delete(next.keys, c.Key)
		case api.HasTimer:
			c.Timer.Do = slices.Clone(c.Timer.Do)
			next.timers[c.Timer.Name] = c.Timer
			next.version = max(next.version, c.Timer.Version+1)
		case api.NoTimer:
			delete(next.timers, c.Key)
		}
	}
	switch u := next.use(); {
	case u.Keys > 100:
		return nil, api.ErrKeys
	case u.Room > 4000:
		return nil, api.ErrRoom
	case u.Timers > 50:
		return nil, api.ErrTimers
	}
	*m = *next
	return undo, api.OK
}

// undo is what undoes one change.
func (m *model) undo(c api.Change) []api.Change {
	value, isKey := m.keys[c.Key]
	switch c.Kind {
	case api.HasKey, api.NoKey:
		if isKey {
			return changes(hasKey(c.Key, value))
		} else if c.Kind == api.HasKey {
			return changes(noKey(c.Key))
		}
	case api.HasTimer, api.NoTimer:
		name := c.Key + c.Timer.Name
		if t, is := m.timers[name]; is {
			return changes(hasTimer(t))
		} else if c.Kind == api.HasTimer {
			return changes(noTimer(name))
		}
	}
	return nil
}

// advance moves the clock.
func (m *model) advance(now uint64) []string {
	l := m.between(true, m.clock, now)
	m.clock = max(m.clock, now)
	return names(l)
}

// bytes are what the state's should be.
func (m *model) bytes() string {
	b := wide(m.clock, 8) + wide(uint64(m.version), 8) + wide(uint64(len(m.keys)+len(m.timers)), 2)
	var l []api.Change
	for _, e := range m.entries() {
		l = append(l, hasKey(e.Key, e.Value))
	}
	for _, t := range m.all() {
		l = append(l, hasTimer(t))
	}
	for _, c := range l {
		b += wide(uint64(len(bytesOf(c))), 2) + bytesOf(c)
	}
	return b
}

// account is what a store should tell.
func (m *model) account() account {
	a := account{m.entries(), m.all(), m.between(false, 0, m.clock), m.clock, 0, m.use(), m.version, m.bytes()}
	if l := m.between(true, m.clock, top); len(l) > 0 {
		a.soonest = l[0].At
	}
	return a
}

// holds holds a store against the model, without changing it.
func (m *model) holds(t *testing.T, s *Store) {
	t.Helper()
	m.account().isOf(t, s)
	for key, value := range m.keys {
		if got, is := s.Get(key); got != value || !is {
			t.Errorf("Get(%q): %q, %v, want %q", key, got, is, value)
		}
	}
}

// modelRead reads a state from the front of bytes, one part behind another.
func modelRead(b string) (*model, bool) {
	number := func(size int) (n uint64, is bool) {
		if len(b) < size {
			return 0, false
		}
		for _, digit := range []byte(b[:size]) {
			n = n*256 + uint64(digit)
		}
		b = b[size:]
		return n, true
	}
	clock, _ := number(8)
	version, _ := number(8)
	count, is := number(2)
	if !is || version < 1 || version > 1<<40+1 {
		return nil, false
	}
	m, last := newModel(clock), ""
	for range count {
		n, is := number(2)
		if !is || uint64(len(b)) < n {
			return nil, false
		}
		c, is := modelDecode(b[:n])
		b = b[n:]
		place := strconv.Itoa(int(c.Kind)) + c.Key + c.Timer.Name
		if !is || c.Kind == api.NoKey || c.Kind == api.NoTimer || place <= last {
			return nil, false
		}
		last = place
		if c.Kind == api.HasKey {
			m.keys[c.Key] = c.Value
		} else {
			m.timers[c.Timer.Name] = c.Timer
			m.version = max(m.version, c.Timer.Version+1)
		}
	}
	if u := m.use(); b != "" || m.version > int(version) || u.Keys > 100 || u.Room > 4000 || u.Timers > 50 {
		return nil, false
	}
	m.version = int(version)
	return m, true
}

// checkState holds Read against the model, and P12.3: what is read has these bytes.
func checkState(t *testing.T, b []byte) {
	t.Helper()
	m, is := modelRead(string(b))
	s, e := Read(b)
	if !is {
		if e != api.ErrBytes || s != nil {
			t.Fatalf("Read(%q): %v, %v", b, s, e)
		}
		return
	}
	if e != api.OK {
		t.Fatalf("Read(%q): %v", b, e)
	}
	m.holds(t, s)
	if again := s.Bytes(); string(again) != string(b) {
		t.Fatalf("Read of %q has the bytes %q", b, again)
	}
}

// chance makes what scripts do.
type chance struct {
	*rand.Rand
	names []string
	value int    // the most bytes of a value
	low   uint64 // of all clocks and deadlines
}

func (r chance) name() string { return r.names[r.Intn(len(r.names))] }
func (r chance) tick() uint64 { return min(r.low+uint64(r.Intn(60)), api.MaxTick) }

// change is a right one.
func (r chance) change() api.Change {
	switch r.Intn(7) {
	case 0, 1, 2:
		return hasKey(r.name(), long(r.Intn(r.value+1)))
	case 3, 4:
		t := api.Timer{Name: r.name(), Version: 1 + r.Intn(9), At: r.tick(), Every: uint64(r.Intn(5))}
		if r.Intn(50) == 0 {
			t.Version = api.MaxNumber - r.Intn(2)
		}
		for range r.Intn(api.MaxSteps + 1) {
			t.Do = append(t.Do, api.Step{Kind: api.Add, Key: r.name(), N: int64(r.Intn(9))})
		}
		return hasTimer(t)
	case 5:
		return noKey(r.name())
	}
	return noTimer(r.name())
}

// list is one of changes, most of them right.
func (r chance) list() []api.Change {
	var l []api.Change
	for range r.Intn(1 + 1<<r.Intn(9)) {
		l = append(l, r.change())
	}
	if r.Intn(9) == 0 && len(l) > 0 {
		c := &l[r.Intn(len(l))]
		c.Kind += api.ChangeKind(r.Intn(7) - 3)
	}
	return l
}

// step does one thing to a store and to the model, and holds the answers against each other.
func (r chance) step(t *testing.T, s *Store, m *model) {
	t.Helper()
	if r.Intn(6) == 0 {
		now := r.tick()
		advances(t, s, now, m.advance(now)...)
		return
	}
	l := r.list()
	was := m.copied()
	undo, e := m.do(l)
	got, ge := s.Do(apart(l))
	if ge != e || !slices.EqualFunc(got, undo, same) {
		t.Fatalf("Do(%v): %v, %v, want %v, %v", l, got, ge, undo, e)
	}
	if e == api.OK && r.Intn(3) == 0 {
		m.holds(t, s)
		was.version = m.version
		again := r.undoes(t, s, got)
		was.holds(t, s)
		r.undoes(t, s, again)
	}
}

// undoes does what undoes changes.
func (r chance) undoes(t *testing.T, s *Store, undo []api.Change) []api.Change {
	t.Helper()
	again, e := s.Do(undo)
	if e != api.OK {
		t.Fatalf("Do of what undoes, %v: %v", undo, e)
	}
	return again
}

// someNames are n names, some of which begin with one another.
func someNames(n int) []string {
	l := []string{"a", "aa", "ab", "b", "\x00", "\xff", long(api.MaxName), long(api.MaxName - 1)}
	for i := len(l); i < n; i++ {
		l = append(l, key(i))
	}
	return l[:n]
}

// P12.1, P12.2, P12.3: scripts of chance, held against the model behind each step; copies, and what was read, too.
func TestScripts(t *testing.T) {
	source := rand.New(rand.NewSource(12))
	for round := range 120 {
		r := chance{source, someNames(1 + source.Intn(140)), []int{0, 5, api.MaxValue}[round%3], []uint64{0, 65500, api.MaxTick - 30}[round/3%3]}
		s, m := New(r.low), newModel(r.low)
		old, was := s, m
		for i := range 60 {
			switch i % 20 {
			case 7:
				old, was = s, m
				s, m = s.Copy(), m.copied()
			case 14:
				read, e := Read(s.Bytes())
				if e != api.OK {
					t.Fatalf("Read: %v", e)
				}
				old, was = s, m
				s, m = read, m.copied()
			}
			r.step(t, s, m)
			m.holds(t, s)
			if i%5 == 0 {
				was.holds(t, old)
			}
			if t.Failed() {
				t.Fatalf("round %d, step %d", round, i)
			}
		}
		was.holds(t, old)
		advances(t, s, top, m.advance(top)...)
		m.holds(t, s)
	}
}

// P2: the same calls have the same answers.
func TestSameCallsSameAnswers(t *testing.T) {
	for round := range int64(12) {
		var want []string
		for i := range 3 {
			r := chance{rand.New(rand.NewSource(round)), someNames(60), 20, 0}
			s, m := New(0), newModel(0)
			var got []string
			for range 40 {
				r.step(t, s, m)
				got = append(got, string(s.Bytes()))
			}
			if i > 0 && !slices.Equal(got, want) {
				t.Fatalf("round %d: other bytes", round)
			}
			want = got
		}
	}
}
