package action

import (
	"math"
	"slices"
	"strconv"
	"strings"
	"testing"

	"belfry/api"
	"belfry/codec"
)

const (
	greatest = math.MaxInt64
	least    = math.MinInt64
)

// P9.1: which steps are right.
func TestRight(t *testing.T) {
	for _, s := range rightSteps() {
		if !Right(s) {
			t.Errorf("%v is not right", s)
		}
	}
	for name, s := range wrongSteps() {
		if Right(s) {
			t.Errorf("%s: right", name)
		}
	}
}

// actionCase is an action and its bytes, written out by hand.
type actionCase struct {
	name  string
	steps []api.Step
	bytes string
}

func actionCases() []actionCase {
	name, value := long(api.MaxName), long(api.MaxValue)
	return []actionCase{
		{"nil", nil, ""},
		{"no step", steps(), ""},
		{"Put", steps(put("a", "x")), "\x01\x00\x03\x01ax"},
		{"Put of no Value", steps(put("a", "")), "\x01\x00\x02\x01a"},
		{"Put of all that fits", steps(put(name, value)), "\x01\x00\x4d\x10" + name + value},
		{"Put of a Value like a field", steps(put("a", "\x02\x00\x02\x01b")), "\x01\x00\x07\x01a\x02\x00\x02\x01b"},
		{"Put of no UTF-8", steps(put("\xff\x00", "\xfe")), "\x01\x00\x04\x02\xff\x00\xfe"},
		{"Drop", steps(drop("bc")), "\x02\x00\x03\x02bc"},
		{"Drop of a long Key", steps(drop(name)), "\x02\x00\x11\x10" + name},
		{"Add", steps(add("n", 25)), "\x03\x00\x04\x01n25"},
		{"Add of 0", steps(add("n", 0)), "\x03\x00\x03\x01n0"},
		{"Add below 0", steps(add("n", -7)), "\x03\x00\x04\x01n-7"},
		{"Add of the greatest", steps(add("n", greatest)), "\x03\x00\x15\x01n9223372036854775807"},
		{"Add of the least", steps(add(name, least)), "\x03\x00\x25\x10" + name + "-9223372036854775808"},
		{"Add to a Key of figures", steps(add("1", 1)), "\x03\x00\x03\x0111"},
		{"Cancel", steps(cancel("t")), "\x04\x00\x02\x01t"},
		{"four", steps(put("a", "x"), add("n", -7), drop("b"), cancel("t")), "\x01\x00\x03\x01ax\x03\x00\x04\x01n-7\x02\x00\x02\x01b\x04\x00\x02\x01t"},
		{"order is kept", steps(cancel("b"), cancel("a"), drop("a")), "\x04\x00\x02\x01b\x04\x00\x02\x01a\x02\x00\x02\x01a"},
		{"one four times", steps(drop("a"), drop("a"), drop("a"), drop("a")), strings.Repeat("\x02\x00\x02\x01a", 4)},
	}
}

// P9.1, P9.2: actions' bytes, and the actions of them.
func TestActionsAndTheirBytes(t *testing.T) {
	for _, c := range actionCases() {
		b, e := Encode(c.steps)
		if e != api.OK || string(b) != c.bytes {
			t.Errorf("%s: Encode: %q, %v", c.name, b, e)
		}
		l, e := Decode([]byte(c.bytes))
		if e != api.OK || !slices.Equal(l, c.steps) {
			t.Errorf("%s: Decode: %v, %v", c.name, l, e)
		}
	}
	if l, e := Decode(nil); e != api.OK || len(l) != 0 {
		t.Errorf("Decode of nil: %v, %v", l, e)
	}
}

// P9.1: what is no action has no bytes; too many steps are told ahead of wrong ones.
func TestEncodeRefuses(t *testing.T) {
	good := drop("a")
	for name, s := range wrongSteps() {
		for _, l := range [][]api.Step{{s}, {s, good}, {good, s}, {good, good, good, s}, {s, s, s, s}} {
			if b, e := Encode(l); e != api.ErrStep || len(b) != 0 {
				t.Errorf("%s, %d steps: %q, %v", name, len(l), b, e)
			}
		}
	}
	for _, s := range []api.Step{good, {}} {
		for _, n := range []int{api.MaxSteps + 1, api.MaxSteps + 2, 200, 201, 1 << 16} {
			if b, e := Encode(slices.Repeat(steps(s), n)); e != api.ErrMuch || len(b) != 0 {
				t.Errorf("%d times %v: %q, %v", n, s, b, e)
			}
		}
	}
}

// P9.1: an action's bytes without those at their end are an action's just where a step ends.
func TestDecodeOfBeginnings(t *testing.T) {
	whole := steps(put("a", "xy"), add("n", -70), cancel("t"), drop("bb"))
	ends := map[int]int{0: 0, 7: 1, 15: 2, 20: 3, 26: 4}
	b, _ := Encode(whole)
	if len(b) != 26 {
		t.Fatalf("%d bytes", len(b))
	}
	for n := range len(b) + 1 {
		count, is := ends[n]
		if !is {
			noAction(t, "a beginning", string(b[:n]))
		} else if l, e := Decode(b[:n]); e != api.OK || !slices.Equal(l, whole[:count]) {
			t.Errorf("%d bytes: %v, %v", n, l, e)
		}
	}
}

// P9.1: with less than a field behind them bytes are no action's.
func TestDecodeOfBytesBehind(t *testing.T) {
	for _, c := range actionCases() {
		for behind := range 256 {
			noAction(t, c.name, c.bytes+string([]byte{byte(behind)}))
		}
		noAction(t, c.name, c.bytes+"\x02\x00")
		noAction(t, c.name, c.bytes+"\x00\x00\x00")
	}
}

// noAction says that bytes are no action's.
func noAction(t *testing.T, name, bytes string) {
	t.Helper()
	if l, e := Decode([]byte(bytes)); e != api.ErrBytes || len(l) != 0 {
		t.Errorf("%s: Decode(%.80q): %v, %v", name, bytes, l, e)
	}
}

// fieldOfData is a field's bytes.
func fieldOfData(t *testing.T, tag int, data string) string {
	t.Helper()
	b, e := codec.Encode([]api.Field{{Tag: tag, Data: []byte(data)}})
	if e != api.OK {
		t.Fatalf("field %d of %d bytes: %v", tag, len(data), e)
	}
	return string(b)
}

// P9.1: fields that are no step's, alone, ahead of a right one and behind three.
func TestDecodeRefusesFields(t *testing.T) {
	type fieldCase struct {
		name string
		tag  int
		data string
	}
	cases := []fieldCase{
		{"tag 5", 5, "\x01a"}, {"tag 5 with a number", 5, "\x01a1"}, {"tag 255", 255, "\x01a"},
		{"Put of a long Value", 1, "\x01a" + long(api.MaxValue+1)},
		{"Put of the longest Value", 1, "\x01a" + long(1998)},
		{"Drop with a byte behind its Key", 2, "\x01ab"}, {"Drop with a nought behind", 2, "\x01a\x00"}, {"Drop with a number", 2, "\x01a0"},
		{"Cancel with a byte behind its Key", 4, "\x01ab"}, {"Cancel with a nought behind", 4, "\x01a\x00"}, {"Cancel with much behind", 4, "\x01a" + long(500)},
	}
	for tag := 1; tag <= 4; tag++ {
		behind := ""
		if tag == 3 {
			behind = "1"
		}
		cases = append(cases,
			fieldCase{"no byte", tag, ""},
			fieldCase{"no Key", tag, "\x00" + behind},
			fieldCase{"a length alone", tag, "\x01"},
			fieldCase{"a Key that is not all there", tag, "\x02a"},
			fieldCase{"a length beyond all", tag, "\xff" + long(254)},
			fieldCase{"a long Key", tag, "\x11" + long(17) + behind},
			fieldCase{"a Key of 255 bytes", tag, "\xff" + long(255) + behind},
		)
	}
	for _, text := range noNumbers() {
		cases = append(cases, fieldCase{"Add of " + strconv.Quote(text), 3, "\x01n" + text})
	}
	good := fieldOfData(t, 2, "\x01a")
	for _, c := range cases {
		f := fieldOfData(t, c.tag, c.data)
		for _, b := range []string{f, f + good, strings.Repeat(good, 3) + f} {
			noAction(t, c.name, b)
		}
	}
	noAction(t, "tag 0", "\x00\x00\x02\x01a")
	for _, n := range []int{5, 6, 200, 201, 300} {
		noAction(t, "too many", strings.Repeat(good, n))
	}
}

// noNumbers are texts that are no number's, short enough for a field.
func noNumbers() []string {
	return []string{
		"", "-", "+", "--1", "-+1", "+-1", "+1", "+0", "-0", "-00", "00", "01", "-01", "007", "0000000000000000000000001",
		" 1", "1 ", "1\n", "\t1", "1\x00", "\x001", "1.", "1.0", "1e3", "0x1", "0b1", "0o7", "1_000", "1,000", "a", "1a", "a1", "1-", "1-1",
		"\u0663", "\u0660", "\uff11", "\u22121", "\xff", "\xb1", "NaN", "inf",
		"9223372036854775808", "-9223372036854775809", "18446744073709551615", "18446744073709551616", "10000000000000000000", "99999999999999999999", "-99999999999999999999",
		"09223372036854775807", "-09223372036854775808", long(60), strings.Repeat("0", 60), strings.Repeat("1", 60), strings.Repeat("9", 1000),
	}
}
