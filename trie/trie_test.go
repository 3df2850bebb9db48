package trie

import (
	"math"
	"slices"
	"strconv"
	"strings"
	"testing"
)

// String quotes both, as they may be bytes that are no text.
func (e Entry) String() string {
	return strconv.Quote(e.Key) + ": " + strconv.Quote(e.Value)
}

// trieOf puts keys one behind another, each with itself and a mark as its value; none should be there twice.
func trieOf(t *testing.T, keys ...string) *Trie {
	t.Helper()
	x := New()
	for _, k := range keys {
		old, was := x.Put(k, k+"!")
		answers(t, "Put of "+strconv.Quote(k), old, was, "", false)
	}
	return x
}

// marked are the entries that trieOf puts.
func marked(keys ...string) []Entry {
	var l []Entry
	for _, k := range keys {
		l = append(l, Entry{k, k + "!"})
	}
	return l
}

// answers says what a call with a text and a bool answered, and what it should have.
func answers(t *testing.T, what string, got string, is bool, want string, wantIs bool) {
	t.Helper()
	if got != want || is != wantIs {
		t.Errorf("%s: %q, %v, want %q, %v", what, got, is, want, wantIs)
	}
}

// puts, drops and gets say what such a call answered, and what it should have.
func puts(t *testing.T, x *Trie, key, value, want string, wantIs bool) {
	t.Helper()
	old, was := x.Put(key, value)
	answers(t, "Put of "+strconv.Quote(key), old, was, want, wantIs)
}

func drops(t *testing.T, x *Trie, key, want string, wantIs bool) {
	t.Helper()
	old, was := x.Drop(key)
	answers(t, "Drop of "+strconv.Quote(key), old, was, want, wantIs)
}

func gets(t *testing.T, x *Trie, key, want string, wantIs bool) {
	t.Helper()
	value, is := x.Get(key)
	answers(t, "Get of "+strconv.Quote(key), value, is, want, wantIs)
}

// walks says what a walk told, and what it should have.
func walks(t *testing.T, x *Trie, prefix string, most int, want ...Entry) {
	t.Helper()
	if got := x.Walk(prefix, most); !slices.Equal(got, want) {
		t.Errorf("Walk(%q, %d): %v, want %v", prefix, most, got, want)
	}
}

// longest says what the longest beginning is, and what it should be.
func longest(t *testing.T, x *Trie, key string, want Entry, wantIs bool) {
	t.Helper()
	if got, is := x.Longest(key); got != want || is != wantIs {
		t.Errorf("Longest(%q): %v, %v, want %v, %v", key, got, is, want, wantIs)
	}
}

// holds says that a trie has just these entries, which are given in order.
func holds(t *testing.T, x *Trie, want ...Entry) {
	t.Helper()
	walks(t, x, "", math.MaxInt, want...)
	if x.Len() != len(want) {
		t.Errorf("%d entries, want %d", x.Len(), len(want))
	}
	for _, e := range want {
		gets(t, x, e.Key, e.Value, true)
		longest(t, x, e.Key, e, true)
	}
	sound(t, x)
}

// someKeys are keys of many kinds.
var someKeys = []string{"", "a", "ab", "abc", "b", "\x00", "\xff", "\xff\xff", "\xc3", "ä", "a\x00", strings.Repeat("long", 300)}

// empty says that a trie has no entries, whatever is asked.
func empty(t *testing.T, x *Trie) {
	t.Helper()
	for _, k := range someKeys {
		gets(t, x, k, "", false)
		drops(t, x, k, "", false)
		longest(t, x, k, Entry{}, false)
		for _, most := range []int{math.MinInt, -1, 0, 1, 2, math.MaxInt} {
			walks(t, x, k, most)
		}
	}
	if x.Len() != 0 {
		t.Errorf("nothing is %d entries", x.Len())
	}
}

// P8.1: a nil trie has nothing, takes nothing, and its copy is nil.
func TestNil(t *testing.T) {
	var x *Trie
	empty(t, x)
	for _, k := range someKeys {
		puts(t, x, k, "v", "", false)
		puts(t, x, k, "", "", false)
	}
	empty(t, x)
	if x.Nodes() != 0 || x.Copy() != nil {
		t.Errorf("a nil trie has %d nodes, and the copy %v", x.Nodes(), x.Copy())
	}
	empty(t, x.Copy())
}

// P8.1, P8.3: an empty trie has its root alone, be it new, a copy, or empty again.
func TestEmpty(t *testing.T) {
	again := trieOf(t, someKeys...)
	for _, k := range someKeys {
		drops(t, again, k, k+"!", true)
	}
	for _, x := range []*Trie{New(), again, New().Copy(), again.Copy()} {
		if x == nil {
			t.Fatal("an empty trie is nil")
		}
		empty(t, x)
		if x.Nodes() != 1 {
			t.Errorf("an empty trie has %d nodes", x.Nodes())
		}
		puts(t, x, "ab", "v", "", false)
		holds(t, x, Entry{"ab", "v"})
	}
}

// P2: what is put into one trie is not in another one.
func TestApart(t *testing.T) {
	a, b := New(), New()
	puts(t, a, "k", "1", "", false)
	empty(t, b)
	puts(t, b, "k", "2", "", false)
	drops(t, b, "k", "2", true)
	holds(t, a, Entry{"k", "1"})
}

// P8.1: one key of each kind, all by itself.
func TestOne(t *testing.T) {
	for _, k := range someKeys {
		for _, v := range []string{"", "v", "\x00", "\xff\xfe", strings.Repeat("w", 3000)} {
			x := New()
			puts(t, x, k, v, "", false)
			holds(t, x, Entry{k, v})
			walks(t, x, k, 1, Entry{k, v})
			walks(t, x, k+"x", 1)
			longest(t, x, k+"x", Entry{k, v}, true)
			gets(t, x, k+"x", "", false)
			drops(t, x, k+"x", "", false)
			holds(t, x, Entry{k, v})
			drops(t, x, k, v, true)
			empty(t, x)
		}
	}
}

// P8.1: the empty key is a key as others are, and begins every one.
func TestEmptyKey(t *testing.T) {
	x := trieOf(t, "a", "b")
	gets(t, x, "", "", false)
	drops(t, x, "", "", false)
	longest(t, x, "", Entry{}, false)
	longest(t, x, "c", Entry{}, false)
	puts(t, x, "", "root", "", false)
	holds(t, x, Entry{"", "root"}, Entry{"a", "a!"}, Entry{"b", "b!"})
	walks(t, x, "", 1, Entry{"", "root"})
	walks(t, x, "a", 9, Entry{"a", "a!"})
	longest(t, x, "", Entry{"", "root"}, true)
	longest(t, x, "c", Entry{"", "root"}, true)
	longest(t, x, "ac", Entry{"a", "a!"}, true)
	puts(t, x, "", "", "root", true)
	longest(t, x, "c", Entry{"", ""}, true)
	drops(t, x, "", "", true)
	drops(t, x, "", "", false)
	holds(t, x, marked("a", "b")...)
	longest(t, x, "c", Entry{}, false)
}

// P8.1: a key with the empty value is there.
func TestEmptyValue(t *testing.T) {
	x := New()
	puts(t, x, "ab", "", "", false)
	puts(t, x, "ac", "", "", false)
	gets(t, x, "ab", "", true)
	gets(t, x, "a", "", false)
	longest(t, x, "abc", Entry{"ab", ""}, true)
	longest(t, x, "a", Entry{}, false)
	puts(t, x, "ab", "", "", true)
	holds(t, x, Entry{"ab", ""}, Entry{"ac", ""})
	puts(t, x, "ab", "v", "", true)
	puts(t, x, "ab", "", "v", true)
	holds(t, x, Entry{"ab", ""}, Entry{"ac", ""})
	drops(t, x, "ab", "", true)
	drops(t, x, "ab", "", false)
	holds(t, x, Entry{"ac", ""})
}

// P8.1: a key that is put again has its last value, once.
func TestPutAgain(t *testing.T) {
	x := trieOf(t, "ab", "abc", "b")
	nodes := x.Nodes()
	puts(t, x, "ab", "1", "ab!", true)
	puts(t, x, "ab", "2", "1", true)
	puts(t, x, "ab", "2", "2", true)
	holds(t, x, Entry{"ab", "2"}, Entry{"abc", "abc!"}, Entry{"b", "b!"})
	if x.Nodes() != nodes {
		t.Errorf("%d nodes, %d behind Puts of a key that was there", nodes, x.Nodes())
	}
	drops(t, x, "ab", "2", true)
	puts(t, x, "ab", "3", "", false)
	holds(t, x, Entry{"ab", "3"}, Entry{"abc", "abc!"}, Entry{"b", "b!"})
}

// P8.1: a key that is dropped is there no more, and whatever is near it stays.
func TestDrop(t *testing.T) {
	keys := []string{"", "a", "abc", "abd", "b", "bcd"}
	for i, k := range keys {
		x := trieOf(t, keys...)
		drops(t, x, k, k+"!", true)
		drops(t, x, k, "", false)
		gets(t, x, k, "", false)
		left := slices.Delete(slices.Clone(keys), i, i+1)
		holds(t, x, marked(left...)...)
	}
}

// P8.1: a key that never was there can't be dropped: beside others, inside a label, where a node is without a value, beyond a key.
func TestDropNothing(t *testing.T) {
	x := trieOf(t, "abcd", "abce", "x")
	nodes := x.Nodes()
	for _, k := range []string{"", "a", "ab", "abc", "abcf", "abcdd", "abd", "y", "xx", "b", "\x00"} {
		gets(t, x, k, "", false)
		drops(t, x, k, "", false)
	}
	holds(t, x, marked("abcd", "abce", "x")...)
	if x.Nodes() != nodes {
		t.Errorf("%d nodes, %d behind Drops of nothing", nodes, x.Nodes())
	}
}

// P8.1: a key and one that it begins, put in both orders, and each of them dropped.
func TestBegins(t *testing.T) {
	for _, c := range []struct{ short, long string }{{"", "a"}, {"a", "ab"}, {"a", "abcdef"}, {"abc", "abcd"}, {"\x00", "\x00\x00"}, {"\xff", "\xff\xff\x00"}} {
		for _, keys := range [][]string{{c.short, c.long}, {c.long, c.short}} {
			x := trieOf(t, keys...)
			holds(t, x, marked(c.short, c.long)...)
			walks(t, x, c.short, 1, marked(c.short)...)
			walks(t, x, c.long, 9, marked(c.long)...)
			longest(t, x, c.long[:len(c.long)-1]+"\x7f", marked(c.short)[0], true)
			longest(t, x, c.long+"\x7f", marked(c.long)[0], true)
			y := x.Copy()
			drops(t, x, c.short, c.short+"!", true)
			holds(t, x, marked(c.long)...)
			longest(t, x, c.short, Entry{}, false)
			drops(t, y, c.long, c.long+"!", true)
			holds(t, y, marked(c.short)...)
			longest(t, y, c.long, marked(c.short)[0], true)
		}
	}
}

// P8.1: what keys have in common is no key of itself.
func TestSharedBeginning(t *testing.T) {
	x := trieOf(t, "belfry", "bell")
	holds(t, x, marked("belfry", "bell")...)
	for _, k := range []string{"", "b", "be", "bel"} {
		gets(t, x, k, "", false)
		drops(t, x, k, "", false)
		longest(t, x, k, Entry{}, false)
		walks(t, x, k, 9, marked("belfry", "bell")...)
	}
	puts(t, x, "bel", "v", "", false)
	holds(t, x, Entry{"bel", "v"}, Entry{"belfry", "belfry!"}, Entry{"bell", "bell!"})
}

// P8.1, P8.2: keys that differ in their first byte, all 256 of them, of any bytes, rise as bytes do.
func TestFirstBytes(t *testing.T) {
	x := New()
	var want []Entry
	for b := range 256 {
		// 77 has no divisor in common with 256: each byte once, in no order.
		k := string([]byte{byte(b * 77), byte(b)})
		puts(t, x, k, k+"!", "", false)
		want = append(want, Entry{k, k + "!"})
	}
	slices.SortFunc(want, func(a, b Entry) int { return strings.Compare(a.Key, b.Key) })
	holds(t, x, want...)
	if x.Nodes() != 257 {
		t.Errorf("%d nodes", x.Nodes())
	}
	walks(t, x, "\x00", 9, want[0])
	walks(t, x, "\xff", 9, want[255])
	for _, e := range want {
		drops(t, x, e.Key, e.Value, true)
	}
	empty(t, x)
}

// P8.1, P8.2: keys of noughts, of 0xff and of bytes that are no UTF-8; runes are parted in their middle.
func TestBytes(t *testing.T) {
	keys := []string{"\x00", "\x00\x00", "\x00\xff", "\x7f", "\x80", "\xc3\xa4", "\xc3\xb6", "\xc3\xff", "\xff", "\xff\x00", "\xff\xff", "\xff\xff\xff"}
	x := New()
	for i := range keys {
		k := keys[(i*5)%len(keys)]
		puts(t, x, k, k+"!", "", false)
	}
	holds(t, x, marked(keys...)...)
	walks(t, x, "\xc3", 9, marked("ä", "ö", "\xc3\xff")...)
	walks(t, x, "\xff\xff", 9, marked("\xff\xff", "\xff\xff\xff")...)
	longest(t, x, "\x00\x01", marked("\x00")[0], true)
	longest(t, x, "\xc3\xa5", Entry{}, false)
	longest(t, x, "\xff\xff\x00", marked("\xff\xff")[0], true)
	gets(t, x, "\xc3", "", false)
}

// P8.1: the entries whose keys begin with a prefix, and no others.
func TestWalkPrefix(t *testing.T) {
	keys := []string{"", "a", "abcde", "abcdf", "abcdfg", "b", "xyz"}
	x := trieOf(t, keys...)
	for _, c := range []struct {
		prefix string
		want   []string
	}{
		{"", keys},
		{"a", keys[1:5]},
		{"ab", keys[2:5]},
		{"abcd", keys[2:5]},
		{"abcde", keys[2:3]},
		{"abcdf", keys[3:5]},
		{"abcdfg", keys[4:5]},
		{"x", keys[6:]},
		{"xy", keys[6:]},
		{"xyz", keys[6:]},
		{"abcdea", nil}, {"abcdfgh", nil}, {"abx", nil}, {"ax", nil}, {"abcdg", nil}, {"c", nil}, {"xz", nil}, {"xyzz", nil}, {"\x00", nil}, {"\xff", nil}, {"A", nil},
	} {
		walks(t, x, c.prefix, 99, marked(c.want...)...)
		walks(t, x, c.prefix, 1, marked(c.want[:min(1, len(c.want))]...)...)
	}
}

// P8.1: the first ones, at most as many as wanted.
func TestWalkMost(t *testing.T) {
	keys := []string{"", "a", "abcde", "abcdf", "abcdfg", "abcdg", "b", "xyz"}
	x := trieOf(t, keys...)
	for _, most := range []int{math.MinInt, -2, -1, 0} {
		walks(t, x, "", most)
		walks(t, x, "ab", most)
		walks(t, x, "none", most)
	}
	for most := 1; most < 12; most++ {
		walks(t, x, "", most, marked(keys[:min(most, 8)]...)...)
		walks(t, x, "abc", most, marked(keys[2:2+min(most, 4)]...)...)
		walks(t, x, "none", most)
	}
	walks(t, x, "", math.MaxInt, marked(keys...)...)
	holds(t, x, marked(keys...)...)
}

// P8.1: of the keys that begin one the longest.
func TestLongest(t *testing.T) {
	x := trieOf(t, "a", "abcd", "abcde", "abxy", "abxz", "c")
	for _, c := range []struct{ key, want string }{
		{"a", "a"}, {"ab", "a"}, {"abc", "a"}, {"abx", "a"}, {"abxx", "a"}, {"ax", "a"}, {"a\x00", "a"}, {"aa", "a"},
		{"abcd", "abcd"}, {"abcdd", "abcd"}, {"abcd\xff", "abcd"}, {"abcde", "abcde"}, {"abcdef", "abcde"}, {"abxy", "abxy"}, {"abxyz", "abxy"}, {"abxz", "abxz"}, {"c", "c"}, {"cab", "c"},
	} {
		longest(t, x, c.key, Entry{c.want, c.want + "!"}, true)
	}
	for _, key := range []string{"", "b", "\x00", "\xff", "A"} {
		longest(t, x, key, Entry{}, false)
	}
	drops(t, x, "a", "a!", true)
	for _, key := range []string{"a", "ab", "abc", "abx", "abxx"} {
		longest(t, x, key, Entry{}, false)
	}
}

// P8.1: a copy and its trie stay apart, whichever of the two is changed.
func TestCopy(t *testing.T) {
	keys := []string{"", "ab", "abc", "abd", "b"}
	changes := []func(*Trie){
		func(x *Trie) { x.Put("ab", "other") },
		func(x *Trie) { x.Put("", "other") },
		func(x *Trie) { x.Put("a", "new") },
		func(x *Trie) { x.Put("abcde", "new") },
		func(x *Trie) { x.Put("c", "new") },
		func(x *Trie) { x.Drop("") },
		func(x *Trie) { x.Drop("ab") },
		func(x *Trie) { x.Drop("abc") },
		func(x *Trie) { x.Drop("b") },
		func(x *Trie) {
			for _, k := range keys {
				x.Drop(k)
			}
		},
	}
	for _, change := range changes {
		wanted := trieOf(t, keys...)
		change(wanted)
		after := wanted.Walk("", math.MaxInt)
		for _, which := range []int{0, 1} {
			x := trieOf(t, keys...)
			nodes := x.Nodes()
			pair := []*Trie{x, x.Copy()}
			change(pair[which])
			holds(t, pair[which], after...)
			holds(t, pair[1-which], marked(keys...)...)
			if pair[which].Nodes() != wanted.Nodes() || pair[1-which].Nodes() != nodes {
				t.Errorf("the changed one has %d nodes, want %d; the other one %d, want %d", pair[which].Nodes(), wanted.Nodes(), pair[1-which].Nodes(), nodes)
			}
		}
	}
}

// P8.1: a copy of a copy is apart from both.
func TestCopyOfCopy(t *testing.T) {
	x := trieOf(t, "ab", "ac")
	y := x.Copy()
	z := y.Copy()
	x.Put("ab", "x")
	y.Put("ab", "y")
	z.Drop("ab")
	holds(t, x, Entry{"ab", "x"}, Entry{"ac", "ac!"})
	holds(t, y, Entry{"ab", "y"}, Entry{"ac", "ac!"})
	holds(t, z, Entry{"ac", "ac!"})
}

// Rule 4: what is handed out is nobody else's.
func TestHandedOut(t *testing.T) {
	x := trieOf(t, "a", "ab", "b")
	first, second := x.Walk("", 9), x.Walk("", 9)
	for i := range first {
		first[i] = Entry{"wiped", "wiped"}
	}
	_ = append(first[:1], Entry{"more", "more"})
	if !slices.Equal(second, marked("a", "ab", "b")) {
		t.Errorf("two walks share memory: %v", second)
	}
	holds(t, x, marked("a", "ab", "b")...)
}
