package codec

import (
	"bytes"
	"slices"
	"testing"

	"belfry/api"
)

// roomy are bytes with others behind them in their memory.
func roomy(s string) []byte {
	return append([]byte(s), "behind"...)[:len(s)]
}

func behind(b []byte) string {
	return string(b[len(b) : len(b)+len("behind")])
}

// Rule 4: what is handed in is neither written into nor kept.
func TestArgumentsStayTheCallers(t *testing.T) {
	data := roomy("ab")
	l := []api.Field{{Tag: 7, Data: data}, {Tag: 8, Data: roomy("")}, {Tag: 99}}[:2]
	b, _ := Encode(l)
	found, _ := Find(l, 7)
	if string(data) != "ab" || behind(data) != "behind" || behind(l[1].Data) != "behind" || l[:3][2].Tag != 99 {
		t.Error("a list was written into")
	}
	data[0] = 'z'
	if string(b) != "\x07\x00\x02ab\x08\x00\x00" || string(found) != "ab" {
		t.Errorf("a list was kept: %q, %q", b, found)
	}
	found[1] = 'y'
	if string(data) != "zb" {
		t.Error("what was found is the list's own memory")
	}
	in := roomy("\x07\x00\x02ab\x08\x00\x01c")
	m, _ := Decode(in)
	if string(in) != "\x07\x00\x02ab\x08\x00\x01c" || behind(in) != "behind" {
		t.Error("bytes were written into")
	}
	clear(in)
	if !sameList(m, []api.Field{field(7, "ab"), field(8, "c")}) {
		t.Errorf("bytes were kept: %v", m)
	}
	digits := roomy("\x01\x02")
	if n, ok := Number(digits); n != 258 || !ok || string(digits) != "\x01\x02" || behind(digits) != "behind" {
		t.Errorf("Number: %d, %v, %q", n, ok, digits)
	}
}

// Rule 4: no two lists of one answer share memory.
func TestDecodedFieldsAreApart(t *testing.T) {
	want := []api.Field{field(1, "aa"), field(2, ""), field(3, "bb"), field(4, "cc")}
	b, _ := Encode(want)
	l, _ := Decode(b)
	for i := range l {
		grown := append(l[i].Data, "much that is written behind it"...)
		clear(grown[len(l[i].Data):])
	}
	if !sameList(l, want) {
		t.Errorf("a field was written into through another one: %v", l)
	}
	clear(l[0].Data)
	if !sameList(l[1:], want[1:]) || !bytes.Equal(b[3:5], []byte("aa")) {
		t.Error("fields share memory")
	}
}

// P2: answers hang on the arguments alone, however often they are asked for.
func TestAnswersComeAgain(t *testing.T) {
	l := []api.Field{field(1, "aa"), field(2, "")}
	b, _ := Encode(l)
	Encode(repeated(field(0, ""), 3))
	Decode([]byte{7})
	again, e := Encode(l)
	if e != api.OK || !bytes.Equal(again, b) {
		t.Errorf("Encode: %q, %v", again, e)
	}
	clear(again)
	if !bytes.Equal(b, []byte("\x01\x00\x02aa\x02\x00\x00")) {
		t.Error("two answers share memory")
	}
	x, y := Bytes(258), Bytes(258)
	clear(x)
	if !slices.Equal(y, []byte{1, 2}) {
		t.Error("two numbers' bytes share memory")
	}
}

// The iterator may be gone through twice, and left early.
func TestFieldsAgainAndLeftEarly(t *testing.T) {
	walk := fields([]byte("\x01\x00\x01a\x02\x00\x01b\x03"))
	for range 2 {
		var tags []int
		var oks []bool
		for f, ok := range walk {
			tags, oks = append(tags, f.Tag), append(oks, ok)
		}
		if !slices.Equal(tags, []int{1, 2, 0}) || !slices.Equal(oks, []bool{true, true, false}) {
			t.Errorf("%v, %v", tags, oks)
		}
	}
	for f := range walk {
		if f.Tag != 1 {
			t.Errorf("tag %d first", f.Tag)
		}
		break
	}
}
