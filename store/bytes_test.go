package store

import (
	"slices"
	"strings"
	"testing"

	"belfry/api"
)

// stateCase is a state and its bytes, written out by hand.
type stateCase struct {
	name    string
	now     uint64
	changes []api.Change
	bytes   string
}

func stateCases() []stateCase {
	bell := api.Timer{Name: "bell", Version: 258, At: 9, Every: 2, Do: []api.Step{{Kind: api.Drop, Key: "k"}}}
	return []stateCase{
		{"nothing", 0, nil, "\x00\x00\x00\x00\x00\x00\x00\x00" + "\x00\x00\x00\x00\x00\x00\x00\x01" + "\x00\x00"},
		{"a clock", 0x0102030405060708, nil, "\x01\x02\x03\x04\x05\x06\x07\x08" + "\x00\x00\x00\x00\x00\x00\x00\x01" + "\x00\x00"},
		{"the greatest clock", top, nil, "\xff\xff\xff\xff\xff\xff\xff\xff" + "\x00\x00\x00\x00\x00\x00\x00\x01" + "\x00\x00"},
		{"a key", 3, changes(hasKey("k", "val")), "\x00\x00\x00\x00\x00\x00\x00\x03" + "\x00\x00\x00\x00\x00\x00\x00\x01" + "\x00\x01" +
			"\x00\x0e" + "\x01\x00\x01\x01\x02\x00\x01k\x03\x00\x03val"},
		{"a timer that was there", 3, changes(hasTimer(bell), noTimer("bell")), "\x00\x00\x00\x00\x00\x00\x00\x03" + "\x00\x00\x00\x00\x00\x00\x01\x03" + "\x00\x00"},
		{"the greatest version", 0, changes(hasTimer(bare("t", api.MaxNumber)), noTimer("t")), "\x00\x00\x00\x00\x00\x00\x00\x00" + "\x00\x00\x01\x00\x00\x00\x00\x01" + "\x00\x00"},
		{"keys and timers", 300, changes(hasTimer(bell), hasTimer(api.Timer{Name: "a", Version: 2}), hasKey("kk", ""), hasKey("k", "v"), hasKey("a", "b")),
			"\x00\x00\x00\x00\x00\x00\x01\x2c" + "\x00\x00\x00\x00\x00\x00\x01\x03" + "\x00\x05" +
				"\x00\x0c" + "\x01\x00\x01\x01\x02\x00\x01a\x03\x00\x01b" +
				"\x00\x0c" + "\x01\x00\x01\x01\x02\x00\x01k\x03\x00\x01v" +
				"\x00\x0c" + "\x01\x00\x01\x01\x02\x00\x02kk\x03\x00\x00" +
				"\x00\x15" + "\x01\x00\x01\x03\x04\x00\x01a\x05\x00\x01\x02\x06\x00\x00\x07\x00\x00\x08\x00\x00" +
				"\x00\x20" + "\x01\x00\x01\x03\x04\x00\x04bell\x05\x00\x02\x01\x02\x06\x00\x01\x09\x07\x00\x01\x02\x08\x00\x05\x02\x00\x02\x01k"},
	}
}

// P12.1, P12.3: a state's bytes, and the state of them.
func TestStatesAndTheirBytes(t *testing.T) {
	for _, c := range stateCases() {
		s := storeOf(t, c.now, c.changes...)
		if b := s.Bytes(); string(b) != c.bytes {
			t.Errorf("%s: Bytes: %q, want %q", c.name, b, c.bytes)
		}
		checkState(t, []byte(c.bytes))
		x, e := Read([]byte(c.bytes))
		if e != api.OK {
			t.Fatalf("%s: Read: %v", c.name, e)
		}
		told(s).isOf(t, x)
	}
}

// P12.3: Read of Bytes is the state, of a full store and of the longest changes, too; it goes on as the store does.
func TestReadGoesOn(t *testing.T) {
	most := slices.Repeat([]api.Step{{Kind: api.Put, Key: long(16), Value: long(60)}}, 4)
	var l []api.Change
	for i := range 50 {
		l = append(l, hasTimer(api.Timer{Name: long(16-len(key(10+i))) + key(10+i), Version: api.MaxNumber - i, At: api.MaxTick - uint64(i), Every: api.MaxTick, Do: most}))
	}
	for _, s := range []*Store{full(t), storeOf(t, api.MaxTick-20, append(l, manyKeys(52, 16, 60)...)...)} {
		x, e := Read(s.Bytes())
		if e != api.OK {
			t.Fatalf("Read: %v", e)
		}
		told(s).isOf(t, x)
		for range 2 {
			for _, c := range changes(hasTimer(bare("t", 5)), noTimer(s.Timers().All()[3].Name), noKey(s.Keys()[7].Key), hasKey("k", "v")) {
				undo, e := s.Do(changes(c))
				again, xe := x.Do(changes(c))
				if e != xe || !slices.EqualFunc(undo, again, same) {
					t.Errorf("Do(%v): %v, %v, of what was read %v, %v", c, undo, e, again, xe)
				}
			}
			advances(t, x, api.MaxTick-10, s.Advance(api.MaxTick-10)...)
			told(s).isOf(t, x)
		}
	}
}

// P12.3: what became due is due, and is told no more.
func TestReadOfWhatIsDue(t *testing.T) {
	s := storeOf(t, 0, hasTimer(timer("a", 1, 5, 0)), hasTimer(timer("b", 2, 7, 3)), hasTimer(timer("c", 3, 0, 0)))
	advances(t, s, 5, "a")
	x, e := Read(s.Bytes())
	if e != api.OK {
		t.Fatalf("Read: %v", e)
	}
	if l := names(x.Timers().Due()); !slices.Equal(l, []string{"c", "a"}) {
		t.Errorf("due: %q", l)
	}
	advances(t, x, 6)
	advances(t, x, 7, "b")
}

// noState says that bytes are no state's.
func noState(t *testing.T, what, b string) {
	t.Helper()
	if s, e := Read([]byte(b)); e != api.ErrBytes || s != nil {
		t.Errorf("%s: Read(%q): %v", what, b, e)
	}
	if _, is := modelRead(b); is {
		t.Errorf("%s: the model takes %q for a state's", what, b)
	}
}

// P12.1: each beginning of a state's bytes, and these with more, are none's.
func TestCutStates(t *testing.T) {
	for _, c := range stateCases() {
		for n := range c.bytes {
			noState(t, c.name, c.bytes[:n])
		}
		for _, more := range []string{"\x00", "\xff", "\x00\x00", "\x00\x0c\x01\x00\x01\x01\x02\x00\x01z\x03\x00\x01v", c.bytes} {
			noState(t, c.name, c.bytes+more)
		}
	}
	for _, b := range []string{"", "\x00", long(18), long(5000), strings.Repeat("\x00", 17), strings.Repeat("\x00", 18), strings.Repeat("\xff", 18), strings.Repeat("\xff", 200000), strings.Repeat("\x00", 200000)} {
		noState(t, "no state", b)
	}
}

// stateBytes are bytes that tell of a clock, a version, and of changes' bytes.
func stateBytes(clock, version uint64, l ...string) string {
	b := wide(clock, 8) + wide(version, 8) + wide(uint64(len(l)), 2)
	for _, c := range l {
		b += wide(uint64(len(c)), 2) + c
	}
	return b
}

// P12.1: changes out of order, twice, of a kind that no state has, or that are no changes.
func TestReadOfChanges(t *testing.T) {
	a, b, x, y := bytesOf(hasKey("a", "1")), bytesOf(hasKey("b", "2")), bytesOf(hasTimer(bare("a", 1))), bytesOf(hasTimer(bare("b", 2)))
	checkState(t, []byte(stateBytes(0, 3, a, b, x, y)))
	other := bytesOf(hasTimer(timer("a", 2, 9, 1)))
	for what, l := range map[string][]string{
		"keys out of order":          {b, a},
		"timers out of order":        {a, b, y, x},
		"timers ahead of keys":       {x, y, a, b},
		"a timer between keys":       {a, x, b},
		"a key behind timers":        {b, x, a},
		"a key twice":                {a, a},
		"a key twice, of two values": {bytesOf(hasKey("a", "")), a, b},
		"a timer twice":              {x, x},
		"a timer twice, another one": {x, other},
		"NoKey":                      {bytesOf(noKey("a"))},
		"NoKey behind the key":       {a, bytesOf(noKey("a"))},
		"NoKey of none":              {a, bytesOf(noKey("c"))},
		"NoTimer":                    {bytesOf(noTimer("a"))},
		"NoTimer behind the timer":   {x, bytesOf(noTimer("a"))},
		"no bytes":                   {""},
		"no bytes behind a key":      {a, ""},
		"a change cut short":         {a[:len(a)-1], b},
		"a change with more":         {a + "\x00", b},
		"a change that is not right": {bytesOf(hasKey(long(17), ""))},
		"a timer of version 0":       {bytesOf(hasTimer(bare("a", 0)))},
		"a deadline above":           {bytesOf(hasTimer(api.Timer{Name: "a", Version: 1, At: api.MaxTick + 1}))},
		"the greatest deadline":      {bytesOf(hasTimer(api.Timer{Name: "a", Version: 1, At: top}))},
		"an Every above":             {bytesOf(hasTimer(api.Timer{Name: "a", Version: 1, At: 5, Every: api.MaxTick + 1}))},
	} {
		for _, clock := range []uint64{0, 5, api.MaxTick, top} {
			noState(t, what, stateBytes(clock, 9, l...))
		}
	}
}

// P12.1: a count that is not how many changes there are, and lengths that are not theirs.
func TestReadOfCounts(t *testing.T) {
	good := stateBytes(0, 3, bytesOf(hasKey("a", "1")), bytesOf(hasTimer(bare("b", 2))))
	for n := range uint64(1 << 16) {
		b := good[:16] + wide(n, 2) + good[18:]
		if _, e := Read([]byte(b)); (e == api.OK) != (n == 2) {
			t.Errorf("a count of %d: %v", n, e)
		}
		b = good[:18] + wide(n, 2) + good[20:]
		if _, e := Read([]byte(b)); (e == api.OK) != (n == 12) {
			t.Errorf("a length of %d: %v", n, e)
		}
	}
}

// P12.1: a version below the one that its timers make, or above all.
func TestReadOfVersions(t *testing.T) {
	for _, c := range []struct {
		version uint64
		l       []string
		is      bool
	}{
		{0, nil, false},
		{1, nil, true},
		{2, nil, true},
		{api.MaxNumber, nil, true},
		{api.MaxNumber + 1, nil, true},
		{api.MaxNumber + 2, nil, false},
		{1 << 63, nil, false},
		{1<<63 + 1, nil, false},
		{top, nil, false},
		{0, []string{bytesOf(hasKey("a", ""))}, false},
		{1, []string{bytesOf(hasKey("a", ""))}, true},
		{0, []string{bytesOf(hasTimer(bare("a", 1)))}, false},
		{1, []string{bytesOf(hasTimer(bare("a", 1)))}, false},
		{2, []string{bytesOf(hasTimer(bare("a", 1)))}, true},
		{8, []string{bytesOf(hasTimer(bare("a", 1))), bytesOf(hasTimer(bare("b", 8)))}, false},
		{8, []string{bytesOf(hasTimer(bare("a", 8))), bytesOf(hasTimer(bare("b", 1)))}, false},
		{9, []string{bytesOf(hasTimer(bare("a", 8))), bytesOf(hasTimer(bare("b", 1)))}, true},
		{api.MaxNumber, []string{bytesOf(hasTimer(bare("a", api.MaxNumber)))}, false},
		{api.MaxNumber + 1, []string{bytesOf(hasTimer(bare("a", api.MaxNumber)))}, true},
		{api.MaxNumber + 2, []string{bytesOf(hasTimer(bare("a", api.MaxNumber)))}, false},
	} {
		b := []byte(stateBytes(7, c.version, c.l...))
		s, e := Read(b)
		if (e == api.OK) != c.is || c.is && s.Version() != int(c.version) {
			t.Errorf("version %d with %q: %v", c.version, c.l, e)
		}
		checkState(t, b)
	}
}

// P12.1: a use that is too much, and one that is just not.
func TestReadOfTooMuch(t *testing.T) {
	for _, c := range []struct {
		l  []api.Change
		is bool
	}{
		{manyKeys(100, 10, 30), true}, {manyKeys(101, 10, 30), false}, {manyKeys(100, 10, 31), false}, {manyKeys(101, 10, 0), false},
		{manyTimers(50), true}, {manyTimers(51), false}, {manyKeys(2000, 10, 60), false},
	} {
		slices.SortFunc(c.l, func(a, b api.Change) int { return strings.Compare(a.Key+a.Timer.Name, b.Key+b.Timer.Name) })
		var l []string
		for _, x := range c.l {
			l = append(l, bytesOf(x))
		}
		b := []byte(stateBytes(7, 2, l...))
		if _, e := Read(b); (e == api.OK) != c.is {
			t.Errorf("Read of %d changes: %v", len(l), e)
		}
		checkState(t, b)
	}
}

// P12.1: a timer stands there at any clock, due or not.
func TestReadAtAnyClock(t *testing.T) {
	ticks := []uint64{0, 1, 255, 256, api.MaxTick - 1, api.MaxTick}
	for _, clock := range append(ticks, api.MaxTick+1, top) {
		for _, at := range ticks {
			b := []byte(stateBytes(clock, 2, bytesOf(hasTimer(timer("t", 1, at, 3)))))
			checkState(t, b)
			s, e := Read(b)
			if e != api.OK || (len(s.Timers().Due()) == 1) != (at <= clock) {
				t.Errorf("a deadline %d at %d: %v", at, clock, e)
			}
		}
	}
}

// P12.1: each byte turned: a state's bytes just if they are some state's.
func TestTurnedStates(t *testing.T) {
	for _, c := range stateCases() {
		b := []byte(c.bytes)
		for i, was := range b {
			for _, n := range []byte{0, 1, 2, 3, 4, 5, 8, 127, 128, 255, was + 1, was - 1, was ^ 0x20} {
				b[i] = n
				checkState(t, b)
			}
			b[i] = was
		}
	}
}

// Rule 4: bytes are neither written into nor kept.
func TestReadKeepsNothing(t *testing.T) {
	for _, c := range stateCases() {
		b := append([]byte(c.bytes), "behind"...)
		s, e := Read(b[:len(c.bytes)])
		if e != api.OK || string(b) != c.bytes+"behind" {
			t.Errorf("%s: %v, %q", c.name, e, b)
		}
		clear(b)
		if string(s.Bytes()) != c.bytes {
			t.Errorf("%s: the bytes were kept", c.name)
		}
	}
	for _, c := range changeCases() {
		b := append([]byte(c.bytes), "behind"...)
		x, e := Decode(b[:len(c.bytes)])
		if e != api.OK || string(b) != c.bytes+"behind" {
			t.Errorf("%s: %v, %q", c.name, e, b)
		}
		clear(b)
		if !same(x, c.change) {
			t.Errorf("%s: the bytes were kept: %v", c.name, x)
		}
		again, _ := Encode(x)
		clear(again)
		if !same(x, c.change) {
			t.Errorf("%s: the change shares memory with its bytes: %v", c.name, x)
		}
	}
}

// FuzzRead: P12.1, P12.3: a state's bytes just if the model says so.
func FuzzRead(f *testing.F) {
	for _, c := range stateCases() {
		f.Add([]byte(c.bytes))
	}
	f.Fuzz(checkState)
}
