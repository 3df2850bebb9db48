package trie

import (
	"maps"
	"math/rand"
	"slices"
	"strconv"
	"strings"
	"testing"
)

// model has the entries in a map, and looks at all of them each time.
type model map[string]string

// walk are the first entries that begin so.
func (m model) walk(prefix string, most int) []Entry {
	var l []Entry
	for _, k := range slices.Sorted(maps.Keys(m)) {
		if strings.HasPrefix(k, prefix) && len(l) < most {
			l = append(l, Entry{k, m[k]})
		}
	}
	return l
}

// longest is the entry with the longest key that begins one.
func (m model) longest(key string) (Entry, bool) {
	for n := len(key); n >= 0; n-- {
		if v, is := m[key[:n]]; is {
			return Entry{key[:n], v}, true
		}
	}
	return Entry{}, false
}

// same says that a trie and a model answer alike when asked about a key.
func same(t *testing.T, x *Trie, m model, key string, most int) {
	t.Helper()
	value, is := m[key]
	gets(t, x, key, value, is)
	walks(t, x, key, most, m.walk(key, most)...)
	walks(t, x, "", most, m.walk("", most)...)
	e, is := m.longest(key)
	longest(t, x, key, e, is)
	if x.Len() != len(m) {
		t.Errorf("%d entries, want %d", x.Len(), len(m))
	}
	sound(t, x)
}

// step does one thing to both, and holds the answers against each other.
func step(t *testing.T, x *Trie, m model, drop bool, key, value string) {
	t.Helper()
	old, was := m[key]
	if drop {
		drops(t, x, key, old, was)
		delete(m, key)
	} else {
		puts(t, x, key, value, old, was)
		m[key] = value
	}
}

// P8.1 to P8.3: scripts of chance, held against the model behind each step; a copy on the way goes on as the trie does, or stays.
func TestScripts(t *testing.T) {
	r := rand.New(rand.NewSource(3))
	for range 80 {
		x, m := New(), model{}
		often := 1 + r.Intn(4)
		for i := range 100 {
			step(t, x, m, r.Intn(5) < often, someKey(r), strconv.Itoa(r.Intn(3)))
			same(t, x, m, someKey(r), r.Intn(12)-1)
			if i%10 == 0 && x.Nodes() != nodesOf(slices.Collect(maps.Keys(m))) {
				t.Errorf("%d nodes, want %d", x.Nodes(), nodesOf(slices.Collect(maps.Keys(m))))
			}
			if r.Intn(10) == 0 {
				left := x
				x = x.Copy()
				step(t, left, maps.Clone(m), r.Intn(2) == 0, someKey(r), "left")
			}
		}
		holds(t, x, m.walk("", 1000)...)
	}
}

// P8.2: what is walked rises, each key above the one ahead of it, from wherever it begins.
func TestRises(t *testing.T) {
	r := rand.New(rand.NewSource(4))
	x := trieOf(t, keysOf(r, 500)...)
	for range 300 {
		prefix := someKey(r)
		l := x.Walk(prefix, 1000)
		for i, e := range l {
			if !strings.HasPrefix(e.Key, prefix) || i > 0 && l[i-1].Key >= e.Key {
				t.Errorf("Walk(%q): entry %d, %v", prefix, i, e)
			}
		}
	}
}

// P2: the same calls give the same answers, however often they are made.
func TestSameCallsSameAnswers(t *testing.T) {
	keys := keysOf(rand.New(rand.NewSource(5)), 200)
	want := trieOf(t, keys...).Walk("", 1000)
	for range 20 {
		x := trieOf(t, keys...)
		walks(t, x, "", 1000, want...)
		walks(t, x.Copy(), "", 1000, want...)
	}
}

// P1: many keys, each of which begins the next, lie as deep as they are many.
func TestDeep(t *testing.T) {
	const depth = 3000
	x := New()
	for n := range depth {
		puts(t, x, strings.Repeat("a", n), strconv.Itoa(n), "", false)
	}
	if x.Nodes() != depth || len(x.Walk("", depth+1)) != depth || len(x.Copy().Walk("aaa", depth)) != depth-3 {
		t.Errorf("%d nodes of %d", x.Nodes(), depth)
	}
	longest(t, x, strings.Repeat("a", depth)+"b", Entry{strings.Repeat("a", depth-1), strconv.Itoa(depth - 1)}, true)
	for n := range depth {
		drops(t, x, strings.Repeat("a", n), strconv.Itoa(n), true)
	}
	empty(t, x)
	if x.Nodes() != 1 {
		t.Errorf("%d nodes of nothing", x.Nodes())
	}
}

// P8.1, P8.2: many keys, in an order far from rising.
func TestMany(t *testing.T) {
	const many = 20000
	x := New()
	for i := range many {
		puts(t, x, strconv.Itoa(i*7919%many), strconv.Itoa(i), "", false)
	}
	l := x.Walk("", many+1)
	if len(l) != many || !slices.IsSortedFunc(l, func(a, b Entry) int { return strings.Compare(a.Key, b.Key) }) {
		t.Errorf("%d entries, or not in order", len(l))
	}
	for i := range many {
		drops(t, x, strconv.Itoa(i*7919%many), strconv.Itoa(i), true)
	}
	empty(t, x)
}

// FuzzTrie reads a script from bytes (a line each: a sign, and a key), and holds it against the model.
func FuzzTrie(f *testing.F) {
	f.Add("+abc\n+abd\n-abc\n?ab\n+\n-\n-abd")
	f.Add("+a\n+\xff\n+\x00\n+a\xff\n-a\n-x\n+ab\n+abc\n-ab")
	f.Fuzz(func(t *testing.T, script string) {
		x, m := New(), model{}
		for i, line := range strings.Split(script, "\n") {
			if line == "" {
				continue
			}
			if line[0] != '?' {
				step(t, x, m, line[0] == '-', line[1:], strconv.Itoa(i))
			}
			same(t, x, m, line[1:], 5)
		}
		if got, want := x.Nodes(), nodesOf(slices.Collect(maps.Keys(m))); got != want {
			t.Errorf("%d nodes, want %d", got, want)
		}
	})
}
