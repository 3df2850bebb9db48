package codec

import (
	"bytes"
	"math"
	"slices"
	"strings"
	"testing"

	"belfry/api"
)

func field(tag int, data string) api.Field {
	return api.Field{Tag: tag, Data: []byte(data)}
}

func repeated(f api.Field, n int) []api.Field {
	return slices.Repeat([]api.Field{f}, n)
}

func sameField(a, b api.Field) bool {
	return a.Tag == b.Tag && bytes.Equal(a.Data, b.Data)
}

func sameList(a, b []api.Field) bool {
	return slices.EqualFunc(a, b, sameField)
}

// listCase is a list and its bytes, written out by hand.
type listCase struct {
	name  string
	list  []api.Field
	bytes string
}

func listCases() []listCase {
	long := strings.Repeat("x", api.MaxField)
	return []listCase{
		{"nil", nil, ""},
		{"empty", []api.Field{}, ""},
		{"no data", []api.Field{{Tag: 9}}, "\x09\x00\x00"},
		{"least tag", []api.Field{field(1, "a")}, "\x01\x00\x01a"},
		{"greatest tag", []api.Field{field(255, "a")}, "\xff\x00\x01a"},
		{"order is kept", []api.Field{field(3, "c"), field(1, ""), field(2, "bb")}, "\x03\x00\x01c\x01\x00\x00\x02\x00\x02bb"},
		{"one tag twice", []api.Field{field(3, "c"), field(3, "c")}, "\x03\x00\x01c\x03\x00\x01c"},
		{"noughts in data", []api.Field{field(1, "\x00\x00")}, "\x01\x00\x02\x00\x00"},
		{"data that looks like a field", []api.Field{field(1, "\x02\x00\x01z")}, "\x01\x00\x04\x02\x00\x01z"},
		{"255 bytes", []api.Field{field(1, long[:255])}, "\x01\x00\xff" + long[:255]},
		{"256 bytes", []api.Field{field(1, long[:256])}, "\x01\x01\x00" + long[:256]},
		{"1999 bytes", []api.Field{field(1, long[:1999])}, "\x01\x07\xcf" + long[:1999]},
		{"2000 bytes", []api.Field{field(1, long)}, "\x01\x07\xd0" + long},
		{"199 fields", repeated(field(4, "q"), 199), strings.Repeat("\x04\x00\x01q", 199)},
		{"200 fields", repeated(field(4, "q"), 200), strings.Repeat("\x04\x00\x01q", 200)},
		{"200 fields of 2000 bytes", repeated(field(255, long), 200), strings.Repeat("\xff\x07\xd0"+long, 200)},
	}
}

// P1.1 and P1.2: a list's bytes, and the list of them.
func TestListsAndTheirBytes(t *testing.T) {
	for _, c := range listCases() {
		b, e := Encode(c.list)
		if e != api.OK || string(b) != c.bytes {
			t.Errorf("%s: Encode: %.40q (%d bytes), %v", c.name, b, len(b), e)
		}
		l, e := Decode([]byte(c.bytes))
		if e != api.OK || !sameList(l, c.list) {
			t.Errorf("%s: Decode: %d fields, %v", c.name, len(l), e)
		}
	}
}

// P1.1: what is no list has no bytes.
func TestEncodeRefusesWhatIsNoList(t *testing.T) {
	good := field(7, "ab")
	wrong := map[string]api.Field{
		"tag 0":      field(0, "a"),
		"tag 256":    field(256, "a"),
		"tag 257":    field(257, "a"),
		"tag -1":     field(-1, "a"),
		"tag -255":   field(-255, "a"),
		"least int":  field(math.MinInt, "a"),
		"most int":   field(math.MaxInt, "a"),
		"2001 bytes": {Tag: 1, Data: make([]byte, 2001)},
		"2^16 bytes": {Tag: 1, Data: make([]byte, 1<<16)},
	}
	for name, f := range wrong {
		for _, l := range [][]api.Field{{f}, {f, good}, {good, f}, append(repeated(good, 199), f)} {
			if b, e := Encode(l); e != api.ErrField || len(b) != 0 {
				t.Errorf("%s, %d fields: %d bytes, %v", name, len(l), len(b), e)
			}
		}
	}
	for _, n := range []int{201, 202, 400, 1 << 16} {
		if b, e := Encode(repeated(good, n)); e != api.ErrField || len(b) != 0 {
			t.Errorf("%d fields: %d bytes, %v", n, len(b), e)
		}
	}
}

// P1.1: bytes that are no list's have no list.
func TestDecodeRefusesWhatIsNoLists(t *testing.T) {
	good := "\x07\x00\x02ab"
	wrong := map[string]string{
		"tag alone":           "\x07",
		"half a length":       "\x07\x00",
		"a nought":            "\x00",
		"tag 0":               "\x00\x00\x00",
		"tag 0 with data":     "\x00\x00\x01a",
		"data missing":        "\x07\x00\x01",
		"data too short":      "\x07\x00\x02a",
		"higher length first": "\x07\x01\x00a",
		"2001 bytes":          "\x07\x07\xd1" + strings.Repeat("x", 2001),
		"2^16 - 1 bytes":      "\x07\xff\xff" + strings.Repeat("x", 1<<16-1),
	}
	for name, s := range wrong {
		for _, ahead := range []int{0, 1, 199} {
			b := []byte(strings.Repeat(good, ahead) + s)
			if l, e := Decode(b); e != api.ErrBytes || len(l) != 0 {
				t.Errorf("%s behind %d: %d fields, %v", name, ahead, len(l), e)
			}
		}
	}
	for _, n := range []int{201, 202, 400, 1 << 16} {
		if l, e := Decode([]byte(strings.Repeat(good, n))); e != api.ErrBytes || len(l) != 0 {
			t.Errorf("%d fields: %d fields, %v", n, len(l), e)
		}
	}
	if l, e := Decode([]byte(strings.Repeat(good, 200) + "\x07")); e != api.ErrBytes || len(l) != 0 {
		t.Errorf("a byte behind 200 fields: %d fields, %v", len(l), e)
	}
}

// P1.1: bytes that are cut are a list's just where a field ends.
func TestDecodeOfBeginnings(t *testing.T) {
	whole := []api.Field{field(7, "ab"), field(255, ""), field(1, "c"), field(2, strings.Repeat("d", 300))}
	ends := map[int]int{0: 0, 5: 1, 8: 2, 12: 3, 315: 4}
	b, _ := Encode(whole)
	for n := range len(b) + 1 {
		l, e := Decode(b[:n])
		count, is := ends[n]
		if is && (e != api.OK || !sameList(l, whole[:count])) {
			t.Errorf("%d bytes: %v, %v", n, l, e)
		}
		if !is && (e != api.ErrBytes || len(l) != 0) {
			t.Errorf("%d bytes: %v, %v", n, l, e)
		}
	}
}

// P1.1: the first field with a tag.
func TestFind(t *testing.T) {
	l := []api.Field{field(7, "ab"), field(9, ""), field(7, "c"), field(255, "last"), field(1, "one"), field(9, "behind")}
	for _, c := range []struct {
		tag  int
		data string
		is   bool
	}{
		{7, "ab", true}, {9, "", true}, {255, "last", true}, {1, "one", true},
		{2, "", false}, {0, "", false}, {256, "", false}, {257, "", false}, {-1, "", false},
		{7 + 256, "", false}, {math.MinInt, "", false}, {math.MaxInt, "", false},
	} {
		if d, is := Find(l, c.tag); string(d) != c.data || is != c.is {
			t.Errorf("Find(%d): %q, %v", c.tag, d, is)
		}
	}
	for _, none := range [][]api.Field{nil, {}} {
		if d, is := Find(none, 7); len(d) != 0 || is {
			t.Errorf("Find in nothing: %q, %v", d, is)
		}
	}
	long := append(repeated(field(3, "no"), 199), field(4, strings.Repeat("y", 2000)))
	if d, is := Find(long, 4); string(d) != strings.Repeat("y", 2000) || !is {
		t.Errorf("Find of the last of 200: %d bytes, %v", len(d), is)
	}
}

// P1.1 and P1.2: a number's bytes, and the number of them.
func TestNumbersAndTheirBytes(t *testing.T) {
	for _, c := range []struct {
		n     uint64
		bytes string
	}{
		{0, ""}, {1, "\x01"}, {127, "\x7f"}, {128, "\x80"}, {255, "\xff"},
		{256, "\x01\x00"}, {258, "\x01\x02"}, {65535, "\xff\xff"}, {65536, "\x01\x00\x00"},
		{0x0102030405, "\x01\x02\x03\x04\x05"}, {1 << 40, "\x01\x00\x00\x00\x00\x00"},
		{1<<56 - 1, "\xff\xff\xff\xff\xff\xff\xff"}, {1 << 56, "\x01\x00\x00\x00\x00\x00\x00\x00"},
		{1 << 62, "\x40\x00\x00\x00\x00\x00\x00\x00"}, {1 << 63, "\x80\x00\x00\x00\x00\x00\x00\x00"},
		{0x0102030405060708, "\x01\x02\x03\x04\x05\x06\x07\x08"},
		{math.MaxUint64, "\xff\xff\xff\xff\xff\xff\xff\xff"},
	} {
		if b := Bytes(c.n); string(b) != c.bytes {
			t.Errorf("Bytes(%d): %q", c.n, b)
		}
		if n, ok := Number([]byte(c.bytes)); n != c.n || !ok {
			t.Errorf("Number(%q): %d, %v", c.bytes, n, ok)
		}
	}
	if n, ok := Number(nil); n != 0 || !ok {
		t.Errorf("Number(nil): %d, %v", n, ok)
	}
}

// P1.1: bytes that are no number's.
func TestNumberRefusesWhatIsNoNumbers(t *testing.T) {
	for _, s := range []string{
		"\x00", "\x00\x00", "\x00\x01", "\x00\xff", "\x00\x02\x03\x04\x05\x06\x07\x08",
		"\x01\x02\x03\x04\x05\x06\x07\x08\x09", "\x01\x00\x00\x00\x00\x00\x00\x00\x00",
		"\x00\x01\x02\x03\x04\x05\x06\x07\x08", "\xff\xff\xff\xff\xff\xff\xff\xff\xff",
		strings.Repeat("\x00", 9), strings.Repeat("\x01", 300),
	} {
		if n, ok := Number([]byte(s)); n != 0 || ok {
			t.Errorf("Number(%q): %d, %v", s, n, ok)
		}
	}
}

// model reads bytes as the chapter says, by cutting fields off.
func model(b []byte) ([]api.Field, bool) {
	if len(b) == 0 {
		return nil, true
	}
	if len(b) < 3 || b[0] == 0 {
		return nil, false
	}
	n := 256*int(b[1]) + int(b[2])
	if n > 2000 || len(b) < 3+n {
		return nil, false
	}
	rest, ok := model(b[3+n:])
	if !ok || len(rest) == 200 {
		return nil, false
	}
	return append([]api.Field{{Tag: int(b[0]), Data: b[3 : 3+n]}}, rest...), true
}

// checkBytes holds Decode against the model, and P1.2: what is decoded has these bytes.
func checkBytes(t *testing.T, b []byte) {
	t.Helper()
	want, ok := model(b)
	l, e := Decode(b)
	if !ok {
		if e != api.ErrBytes || len(l) != 0 {
			t.Fatalf("Decode(%q): %v, %v", b, l, e)
		}
		return
	}
	if e != api.OK || !sameList(l, want) {
		t.Fatalf("Decode(%q): %v, %v", b, l, e)
	}
	if back, e := Encode(l); e != api.OK || !bytes.Equal(back, b) {
		t.Fatalf("Encode(Decode(%q)): %q, %v", b, back, e)
	}
}

// P1.2: all bytes of some few kinds, up to eight of them.
func TestAllShortBytes(t *testing.T) {
	kinds := []byte{0, 1, 2, 255}
	all := [][]byte{{}}
	for len(all[0]) < 8 {
		var longer [][]byte
		for _, b := range all {
			checkBytes(t, b)
			for _, k := range kinds {
				longer = append(longer, append(slices.Clone(b), k))
			}
		}
		all = longer
	}
	for _, b := range all {
		checkBytes(t, b)
	}
}

// P1.2: every tag, and every length of data, there and back.
func TestEveryTagAndLength(t *testing.T) {
	data := make([]byte, api.MaxField+3)
	for i := range data {
		data[i] = byte(i * 7)
	}
	for tag := -2; tag <= 258; tag++ {
		checkList(t, []api.Field{{Tag: tag, Data: data[:5]}}, tag >= 1 && tag <= 255)
	}
	for n := range data {
		checkList(t, []api.Field{field(1, "ahead"), {Tag: 200, Data: data[:n]}, field(1, "behind")}, n <= 2000)
	}
	for n := range 203 {
		checkList(t, repeated(field(5, "five"), n), n <= 200)
	}
}

func checkList(t *testing.T, l []api.Field, right bool) {
	t.Helper()
	b, e := Encode(l)
	if !right {
		if e != api.ErrField || len(b) != 0 {
			t.Fatalf("no list of %d: %d bytes, %v", len(l), len(b), e)
		}
		return
	}
	if e != api.OK {
		t.Fatalf("a list of %d: %v", len(l), e)
	}
	if back, e := Decode(b); e != api.OK || !sameList(back, l) {
		t.Fatalf("a list of %d: %d fields came back, %v", len(l), len(back), e)
	}
}

func FuzzDecode(f *testing.F) {
	for _, c := range listCases() {
		f.Add([]byte(c.bytes))
	}
	f.Fuzz(checkBytes)
}

// edgeNumbers are those around all powers of 2, and small ones, rising.
func edgeNumbers() []uint64 {
	var l []uint64
	for n := range uint64(1 << 10) {
		l = append(l, n, math.MaxUint64-n)
	}
	for i := range 64 {
		for d := range uint64(5) {
			l = append(l, 1<<i+d-2, 3<<i+d-2)
		}
	}
	slices.Sort(l)
	return slices.Compact(l)
}

// P1.2: the number of a number's bytes is the number, and they are as few as may be.
func TestNumbersThereAndBack(t *testing.T) {
	for _, n := range edgeNumbers() {
		b := Bytes(n)
		if m, ok := Number(b); m != n || !ok {
			t.Errorf("Number(Bytes(%d)): %d, %v", n, m, ok)
		}
		if k := len(b); k > 8 || k > 0 && n>>(8*(k-1)) == 0 || k < 8 && n>>(8*k) != 0 {
			t.Errorf("Bytes(%d): %d bytes", n, k)
		}
		if m, ok := Number(append([]byte{0}, b...)); m != 0 || ok {
			t.Errorf("%d with a nought ahead: %d, %v", n, m, ok)
		}
	}
}

// P1.2: bytes that are a number's are that number's bytes.
func TestNumberBytesComeBack(t *testing.T) {
	for a := range 256 {
		for c := range 256 {
			for _, b := range [][]byte{{byte(a)}, {byte(a), byte(c)}, {byte(a), 0, 0, 0, 0, 0, 0, byte(c)}} {
				n, ok := Number(b)
				if ok != (a != 0) || ok && !bytes.Equal(Bytes(n), b) {
					t.Fatalf("Number(%q): %d, %v", b, n, ok)
				}
			}
		}
	}
}

// P1.3: of two numbers the lesser one has no more bytes, and, of as many, lesser ones.
func TestNumbersInOrder(t *testing.T) {
	l := edgeNumbers()
	for i := 1; i < len(l); i++ {
		checkOrder(t, l[i-1], l[i])
	}
	for i := 0; i < len(l); i += 37 {
		for k := i + 1; k < len(l); k += 41 {
			checkOrder(t, l[i], l[k])
		}
	}
}

func checkOrder(t *testing.T, less, more uint64) {
	t.Helper()
	a, b := Bytes(less), Bytes(more)
	if len(a) > len(b) {
		t.Errorf("%d has more bytes than %d", less, more)
	}
	if len(a) == len(b) && bytes.Compare(a, b) >= 0 {
		t.Errorf("the bytes of %d, %q, are not below those of %d, %q", less, a, more, b)
	}
}
