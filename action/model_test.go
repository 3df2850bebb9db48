package action

import (
	"maps"
	"math/big"
	"math/rand"
	"regexp"
	"slices"
	"strings"
	"testing"

	"belfry/api"
	"belfry/codec"
	"belfry/trie"
)

// numberForm is how a number's text looks; whether it has 64 bits is asked apart.
var numberForm = regexp.MustCompile(`\A(0|-?[1-9][0-9]*)\z`)

// modelNumber is the number that a text is of.
func modelNumber(text string) (*big.Int, bool) {
	if !numberForm.MatchString(text) {
		return nil, false
	}
	n, is := new(big.Int).SetString(text, 10)
	return n, is && n.IsInt64()
}

// modelStep is the step that a field is of, as the chapter says it kind by kind.
func modelStep(f api.Field) (api.Step, bool) {
	if len(f.Data) == 0 || f.Data[0] == 0 || f.Data[0] > 16 || len(f.Data) < 1+int(f.Data[0]) {
		return api.Step{}, false
	}
	key, behind := string(f.Data[1:1+f.Data[0]]), string(f.Data[1+f.Data[0]:])
	switch f.Tag {
	case 1:
		return api.Step{Kind: api.Put, Key: key, Value: behind}, len(behind) <= 60
	case 2:
		return api.Step{Kind: api.Drop, Key: key}, behind == ""
	case 3:
		n, is := modelNumber(behind)
		if !is {
			return api.Step{}, false
		}
		return api.Step{Kind: api.Add, Key: key, N: n.Int64()}, true
	case 4:
		return api.Step{Kind: api.Cancel, Key: key}, behind == ""
	}
	return api.Step{}, false
}

// modelDecode is the action of bytes.
func modelDecode(b []byte) ([]api.Step, bool) {
	fields, e := codec.Decode(b)
	if e != api.OK || len(fields) > 4 {
		return nil, false
	}
	var l []api.Step
	for _, f := range fields {
		s, is := modelStep(f)
		if !is {
			return nil, false
		}
		l = append(l, s)
	}
	return l, true
}

// checkBytes holds Decode against the model, and P9.2: what is decoded has these bytes.
func checkBytes(t *testing.T, b []byte) {
	t.Helper()
	want, is := modelDecode(b)
	l, e := Decode(b)
	if !is {
		if e != api.ErrBytes || len(l) != 0 {
			t.Fatalf("Decode(%q): %v, %v", b, l, e)
		}
		return
	}
	if e != api.OK || !slices.Equal(l, want) {
		t.Fatalf("Decode(%q): %v, %v, want %v", b, l, e, want)
	}
	if back, e := Encode(l); e != api.OK || string(back) != string(b) {
		t.Fatalf("Encode(Decode(%q)): %q, %v", b, back, e)
	}
}

// checkSteps says that Decode of Encode is the action, if it is one.
func checkSteps(t *testing.T, l []api.Step) {
	t.Helper()
	b, e := Encode(l)
	if e != api.OK {
		t.Fatalf("Encode(%v): %v", l, e)
	}
	if back, e := Decode(b); e != api.OK || !slices.Equal(back, l) {
		t.Fatalf("Decode(Encode(%v)): %v, %v", l, back, e)
	}
	checkBytes(t, b)
}

// P9.2: right steps of all kinds, alone and in pairs, and some in threes and fours.
func TestThereAndBack(t *testing.T) {
	all := rightSteps()
	for i, a := range all {
		checkSteps(t, steps(a))
		for k, b := range all {
			checkSteps(t, steps(a, b))
			if k%7 == 0 {
				checkSteps(t, steps(b, all[(i+k)%len(all)], a))
				checkSteps(t, steps(a, b, all[(i*k)%len(all)], all[(i+2*k)%len(all)]))
			}
		}
	}
	for _, n := range edges() {
		checkSteps(t, steps(add("n", n), add("1", n), add("-", -n)))
	}
}

// P9.1, P9.2: every byte of an action's bytes changed, taken out and put in twice.
func TestBytesThatAreNearAnActions(t *testing.T) {
	for _, c := range actionCases() {
		for i := range len(c.bytes) {
			for other := range 256 {
				checkBytes(t, []byte(c.bytes[:i]+string([]byte{byte(other)})+c.bytes[i+1:]))
			}
			checkBytes(t, []byte(c.bytes[:i]+c.bytes[i+1:]))
			checkBytes(t, []byte(c.bytes[:i+1]+c.bytes[i:]))
		}
	}
}

// P9.1: one field of each tag, with data of few kinds of bytes, up to five of them.
func TestAllShortFields(t *testing.T) {
	datas := []string{""}
	for i := 0; i < len(datas) && len(datas[i]) < 5; i++ {
		for _, more := range []string{"\x00", "\x01", "\x02", "0", "9", "-"} {
			datas = append(datas, datas[i]+more)
		}
	}
	for _, data := range datas {
		for tag := 1; tag <= 5; tag++ {
			b, _ := codec.Encode([]api.Field{{Tag: tag, Data: []byte(data)}})
			checkBytes(t, b)
		}
	}
}

// model has values by keys.
type model map[string]string

// after is what a model is behind an action's steps, which may not be done if one has an error.
func (m model) after(l []api.Step) (model, []string, api.Errno) {
	m = maps.Clone(m)
	var cancelled []string
	for _, s := range l {
		switch s.Kind {
		case api.Put:
			m[s.Key] = s.Value
		case api.Drop:
			delete(m, s.Key)
		case api.Cancel:
			cancelled = append(cancelled, s.Key)
		case api.Add:
			value, is := m[s.Key]
			if !is {
				value = "0"
			}
			n, is := modelNumber(value)
			if !is {
				return nil, nil, api.ErrNumber
			}
			if n.Add(n, big.NewInt(s.N)); !n.IsInt64() {
				return nil, nil, api.ErrMuch
			}
			m[s.Key] = n.String()
		}
	}
	return m, cancelled, api.OK
}

// pairs are a model's keys, rising, each with its value.
func (m model) pairs() []string {
	var l []string
	for _, key := range slices.Sorted(maps.Keys(m)) {
		l = append(l, key, m[key])
	}
	return l
}

// someStep is a right one on few keys, which have much in common.
func someStep(r *rand.Rand) api.Step {
	keys := []string{"a", "ab", "abc", "abd", "b", "\xff", "n", "n1"}
	values := []string{"", "x", "0", "-1", "41", "9223372036854775807", "-9223372036854775808", "01"}
	numbers := []int64{0, 1, -1, 5, greatest, least, 1 << 62}
	key := keys[r.Intn(len(keys))]
	switch r.Intn(6) {
	case 0:
		return drop(key)
	case 1:
		return cancel(key)
	case 2, 3:
		return put(key, values[r.Intn(len(values))])
	}
	return add(key, numbers[r.Intn(len(numbers))])
}

// P9.1, P9.3: scripts of chance, held against the model behind each action; what was done, done in actions of one step, makes the same trie.
func TestScripts(t *testing.T) {
	r := rand.New(rand.NewSource(9))
	for range 200 {
		x, singly, m := trie.New(), trie.New(), model{}
		for range 60 {
			l := make([]api.Step, 0, api.MaxSteps)
			for range r.Intn(api.MaxSteps + 1) {
				l = append(l, someStep(r))
			}
			after, cancelled, e := m.after(l)
			if e != api.OK {
				refuses(t, x, l, e)
				continue
			}
			does(t, x, l, cancelled...)
			m = after
			for _, s := range l {
				Do(singly, steps(s))
			}
		}
		holds(t, x, m.pairs()...)
		holds(t, singly, m.pairs()...)
	}
}

// Rule 4: what is handed in is neither written into nor kept, and what lies behind it is not looked at.
func TestArgumentsStayTheCallers(t *testing.T) {
	l := steps(put("a", "x"), add("n", 5), cancel("t"), cancel("s"), api.Step{}, api.Step{Kind: 9})
	before := slices.Clone(l)
	b, e := Encode(l[:4])
	if e != api.OK {
		t.Errorf("Encode: %v", e)
	}
	x := trie.New()
	names, e := Do(x, l[:4])
	if e != api.OK || !slices.Equal(l, before) {
		t.Errorf("Do: %v, the steps are %v", e, l)
	}
	clear(l)
	if string(b) != "\x01\x00\x03\x01ax\x03\x00\x03\x01n5\x04\x00\x02\x01t\x04\x00\x02\x01s" || !slices.Equal(names, []string{"t", "s"}) {
		t.Errorf("the steps were kept: %q, %q", b, names)
	}
	holds(t, x, "a", "x", "n", "5")

	in := []byte(string(b) + "behind")
	m, e := Decode(in[:len(b)])
	if e != api.OK || string(in) != string(b)+"behind" {
		t.Errorf("Decode: %v, the bytes are %q", e, in)
	}
	clear(in)
	if !slices.Equal(m, before[:4]) {
		t.Errorf("the bytes were kept: %v", m)
	}
}

// Rule 4, P2: the same call answers the same, in memory of its own.
func TestAnswersComeAgain(t *testing.T) {
	l := steps(put("a", "x"), add("n", 5), cancel("t"), cancel("s"))
	b, _ := Encode(l)
	again, _ := Encode(l)
	clear(again)
	m, _ := Decode(b)
	n, _ := Decode(b)
	clear(n)
	if !slices.Equal(m, l) {
		t.Errorf("%v", m)
	}
	x := trieOf("k", "v")
	first, _ := Do(x.Copy(), l)
	second, _ := Do(x.Copy(), l)
	clear(second)
	if !slices.Equal(first, []string{"t", "s"}) {
		t.Errorf("%q", first)
	}
	holds(t, x, "k", "v")
}

// P1: values that no action could have put, and much of everything.
func TestMuch(t *testing.T) {
	much := strings.Repeat("7", 1<<20)
	x := trieOf("n", much, long(1<<16), "x", "", "1")
	refuses(t, x, steps(add("n", 1)), api.ErrNumber)
	does(t, x, steps(put("n", "1"), add("n", 1)))
	holds(t, x, "", "1", "n", "2", long(1<<16), "x")
	noAction(t, "much", strings.Repeat("\x01", 1<<20))
	noAction(t, "noughts", string(make([]byte, 1<<20)))
	for range 3 {
		for i := range 2000 {
			key := string([]byte{byte(i >> 8), byte(i)})
			does(t, x, steps(put(key, ""), drop(key), add(key, 1), add(key, int64(i))))
		}
	}
	if x.Len() != 2003 {
		t.Errorf("%d keys", x.Len())
	}
}

func FuzzDecode(f *testing.F) {
	for _, c := range actionCases() {
		f.Add([]byte(c.bytes))
	}
	f.Fuzz(checkBytes)
}

func FuzzSum(f *testing.F) {
	f.Add("10", int64(-7))
	f.Add("-9223372036854775808", int64(-1))
	f.Fuzz(func(t *testing.T, value string, n int64) {
		sum, e := Sum(value, n)
		m, is := modelNumber(value)
		if !is {
			if sum != "" || e != api.ErrNumber {
				t.Errorf("Sum(%q, %d): %q, %v", value, n, sum, e)
			}
			return
		}
		m.Add(m, big.NewInt(n))
		if m.IsInt64() && (e != api.OK || sum != m.String()) || !m.IsInt64() && (e != api.ErrMuch || sum != "") {
			t.Errorf("Sum(%q, %d): %q, %v", value, n, sum, e)
		}
	})
}
