package store

import (
	"slices"
	"strings"
	"testing"

	"belfry/api"
)

// P12.1: which changes are right.
func TestRight(t *testing.T) {
	for _, c := range rightChanges() {
		if !Right(c) {
			t.Errorf("%v is not right", c)
		}
	}
	for what, c := range wrongChanges() {
		if Right(c) {
			t.Errorf("%s: %v is right", what, c)
		}
	}
}

// changeCase is a change and its bytes, written out by hand.
type changeCase struct {
	name   string
	change api.Change
	bytes  string
}

func changeCases() []changeCase {
	do := []api.Step{{Kind: api.Put, Key: "k", Value: "v"}, {Kind: api.Add, Key: "n", N: -12}, {Kind: api.Cancel, Key: "t"}}
	doBytes := "\x01\x00\x03\x01kv\x03\x00\x05\x01n-12\x04\x00\x02\x01t"
	return []changeCase{
		{"HasKey", hasKey("k", "val"), "\x01\x00\x01\x01\x02\x00\x01k\x03\x00\x03val"},
		{"HasKey without a value", hasKey("key", ""), "\x01\x00\x01\x01\x02\x00\x03key\x03\x00\x00"},
		{"HasKey at its most", hasKey(long(16), long(60)), "\x01\x00\x01\x01\x02\x00\x10" + long(16) + "\x03\x00\x3c" + long(60)},
		{"NoKey", noKey("k"), "\x01\x00\x01\x02\x02\x00\x01k"},
		{"NoKey at its most", noKey(long(16)), "\x01\x00\x01\x02\x02\x00\x10" + long(16)},
		{"NoTimer", noTimer("\x00\xff"), "\x01\x00\x01\x04\x02\x00\x02\x00\xff"},
		{"HasTimer", hasTimer(api.Timer{Name: "bell", Version: 258, At: 9, Every: 2, Do: do}), "\x01\x00\x01\x03\x04\x00\x04bell\x05\x00\x02\x01\x02\x06\x00\x01\x09\x07\x00\x01\x02\x08\x00\x13" + doBytes},
		{"HasTimer at its least", hasTimer(api.Timer{Name: "t", Version: 1}), "\x01\x00\x01\x03\x04\x00\x01t\x05\x00\x01\x01\x06\x00\x00\x07\x00\x00\x08\x00\x00"},
		{"HasTimer at its most", hasTimer(api.Timer{Name: long(16), Version: api.MaxNumber, At: api.MaxTick, Every: api.MaxTick, Do: slices.Repeat([]api.Step{{Kind: api.Put, Key: long(16), Value: long(60)}}, 4)}),
			"\x01\x00\x01\x03\x04\x00\x10" + long(16) + "\x05\x00\x06\x01\x00\x00\x00\x00\x00\x06\x00\x08\x40\x00\x00\x00\x00\x00\x00\x00\x07\x00\x08\x40\x00\x00\x00\x00\x00\x00\x00\x08\x01\x40" + strings.Repeat("\x01\x00\x4d\x10"+long(76), 4)},
	}
}

// P12.1: a change's bytes, and the change of them.
func TestChangesAndTheirBytes(t *testing.T) {
	for _, c := range changeCases() {
		b, e := Encode(c.change)
		if e != api.OK || string(b) != c.bytes {
			t.Errorf("%s: Encode: %q, %v, want %q", c.name, b, e, c.bytes)
		}
		d, e := Decode([]byte(c.bytes))
		if e != api.OK || !same(d, c.change) {
			t.Errorf("%s: Decode: %v, %v, want %v", c.name, d, e, c.change)
		}
	}
}

// P12.1: Decode of Encode is the change, of all that are right.
func TestChangesThereAndBack(t *testing.T) {
	for _, c := range rightChanges() {
		b, e := Encode(c)
		if want := bytesOf(c); e != api.OK || string(b) != want {
			t.Errorf("Encode(%v): %q, %v, want %q", c, b, e, want)
		}
		checkChange(t, b)
		if d, e := Decode(b); e != api.OK || !same(d, c) {
			t.Errorf("Decode of the bytes of %v: %v, %v", c, d, e)
		}
	}
}

// P12.1: what is not right has no bytes, and the bytes that it would have are no change's.
func TestWrongChangesHaveNoBytes(t *testing.T) {
	for what, c := range wrongChanges() {
		if b, e := Encode(c); e != api.ErrState || len(b) != 0 {
			t.Errorf("%s: Encode: %q, %v", what, b, e)
		}
		if 0 <= c.Kind && c.Kind < 256 {
			checkRefused(t, what, bytesOf(c))
		}
	}
}

// checkRefused says that bytes are no change's.
func checkRefused(t *testing.T, what, b string) {
	t.Helper()
	if c, e := Decode([]byte(b)); e != api.ErrBytes || !same(c, api.Change{}) || c.Timer.Do != nil {
		t.Errorf("%s: Decode(%q): %v, %v", what, b, c, e)
	}
	if _, is := modelDecode(b); is {
		t.Errorf("%s: the model takes %q for a change's", what, b)
	}
}

// P12.1: bytes that are cut short, or have a byte more, are no change's.
func TestCutBytes(t *testing.T) {
	for _, c := range changeCases() {
		for n := range c.bytes {
			checkRefused(t, c.name, c.bytes[:n])
			checkRefused(t, c.name, c.bytes[n+1:])
		}
		for _, more := range []string{"\x00", "\x01", "\xff", "\x01\x00", "\x09\x00\x00", "\x03\x00\x00", "\x08\x00\x00", c.bytes} {
			checkRefused(t, c.name, c.bytes+more)
			checkRefused(t, c.name, more+c.bytes)
		}
	}
}

// fieldsOf are the bytes of each field, as they stand.
func fieldsOf(b string) []string {
	var l []string
	for len(b) > 0 {
		n := 3 + int(b[1])<<8 + int(b[2])
		l = append(l, b[:n])
		b = b[n:]
	}
	return l
}

// P12.1: bytes with a field missing, doubled, out of order, of a tag unknown,
// of another kind, or of a length that is not its own, are no change's.
func TestTurnedFields(t *testing.T) {
	for _, c := range changeCases() {
		l := fieldsOf(c.bytes)
		for i, f := range l {
			checkRefused(t, c.name+" without one", strings.Join(slices.Delete(slices.Clone(l), i, i+1), ""))
			checkChange(t, []byte(strings.Join(slices.Replace(slices.Clone(l), i, i+1, f[:1]+"\x00\x00"), "")))
			checkChange(t, []byte(strings.Join(slices.Replace(slices.Clone(l), i, i+1, f[:1]+"\x00\x02\x00\x01"), "")))
			for j := range len(l) + 1 {
				checkRefused(t, c.name+" with one doubled", strings.Join(slices.Insert(slices.Clone(l), j, f), ""))
				for _, other := range []string{"\x09\x00\x00", "\xff\x00\x01a", "\x00\x00\x00", "\x02\x00\x00", "\x03\x00\x00", "\x04\x00\x00", "\x05\x00\x00", "\x08\x00\x00"} {
					checkRefused(t, c.name+" with another one", strings.Join(slices.Insert(slices.Clone(l), j, other), ""))
				}
				if j != i && j < len(l) {
					turned := slices.Clone(l)
					turned[i], turned[j] = turned[j], turned[i]
					checkRefused(t, c.name+" with two turned", strings.Join(turned, ""))
				}
			}
			for tag := range 256 {
				if byte(tag) != f[0] {
					checkRefused(t, c.name+" with a tag turned", strings.Join(slices.Replace(slices.Clone(l), i, i+1, string([]byte{byte(tag)})+f[1:]), ""))
				}
			}
		}
	}
}

// P12.1: each byte turned to each other one: a change's bytes just if they are some change's.
func TestTurnedBytes(t *testing.T) {
	for _, c := range changeCases() {
		if len(c.bytes) > 100 {
			continue
		}
		b := []byte(c.bytes)
		for i, was := range b {
			for n := range 256 {
				b[i] = byte(n)
				checkChange(t, b)
			}
			b[i] = was
		}
	}
}

// P12.1: numbers that are beyond what a timer may have, or are no number's bytes.
func TestDecodeOfNumbers(t *testing.T) {
	for _, c := range []struct {
		version, at, every string
		is                 bool
	}{
		{"\x01", "", "", true},
		{"", "", "", false},
		{"\x00", "", "", false},
		{"\x00\x01", "", "", false},
		{"\x01", "\x00", "", false},
		{"\x01", "\x00\x01", "", false},
		{"\x01", "", "\x00", false},
		{"\x01\x00\x00\x00\x00\x00", "", "", true},
		{"\x01\x00\x00\x00\x00\x01", "", "", false},
		{"\x01\x00\x00\x00\x00\x00\x00\x01", "", "", false},
		{"\x80\x00\x00\x00\x00\x00\x00\x01", "", "", false},
		{"\xff\xff\xff\xff\xff\xff\xff\xff", "", "", false},
		{"\x01\x00\x00\x00\x00\x00\x00\x00\x01", "", "", false},
		{"\x01", "\x40\x00\x00\x00\x00\x00\x00\x00", "\x40\x00\x00\x00\x00\x00\x00\x00", true},
		{"\x01", "\x40\x00\x00\x00\x00\x00\x00\x01", "", false},
		{"\x01", "", "\x40\x00\x00\x00\x00\x00\x00\x01", false},
		{"\x01", "\x01\x00\x00\x00\x00\x00\x00\x00\x01", "", false},
	} {
		b := []byte("\x01\x00\x01\x03" + field(4, "t") + field(5, c.version) + field(6, c.at) + field(7, c.every) + field(8, ""))
		if _, e := Decode(b); (e == api.OK) != c.is {
			t.Errorf("version %q, deadline %q, Every %q: %v", c.version, c.at, c.every, e)
		}
		checkChange(t, b)
	}
}

// P12.1: much that is no change's.
func TestDecodeOfMuch(t *testing.T) {
	for _, n := range []int{199, 200, 201, 5000} {
		for _, f := range []string{"\x01\x00\x01\x01", "\x09\x00\x00", "\x02\x07\xd0" + long(2000), "\x00", "\xff"} {
			checkRefused(t, "much", strings.Repeat(f, n))
		}
	}
	checkRefused(t, "a long field", "\x01\x00\x01\x01"+field(2, "k")+"\x03\x07\xd1"+long(2001))
}

// P12.1: the kind has one byte.
func TestDecodeOfKinds(t *testing.T) {
	for kind := range 256 {
		b := []byte(field(1, string([]byte{byte(kind)})) + field(2, "k"))
		if _, e := Decode(b); (e == api.OK) != (kind == 2 || kind == 4) {
			t.Errorf("kind %d: %v", kind, e)
		}
		checkRefused(t, "two bytes", field(1, string([]byte{byte(kind), 2}))+field(2, "k"))
		checkRefused(t, "two bytes", field(1, string([]byte{2, byte(kind)}))+field(2, "k"))
	}
	checkRefused(t, "no byte", field(1, "")+field(2, "k"))
}

// FuzzDecode: P12.1: a change's bytes just if the model says so.
func FuzzDecode(f *testing.F) {
	for _, c := range changeCases() {
		f.Add([]byte(c.bytes))
	}
	f.Fuzz(checkChange)
}
