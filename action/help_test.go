package action

import (
	"slices"
	"strings"
	"testing"

	"belfry/api"
	"belfry/trie"
)

// put, drop, add and cancel are steps of each kind.
func put(key, value string) api.Step {
	return api.Step{Kind: api.Put, Key: key, Value: value}
}

func drop(key string) api.Step {
	return api.Step{Kind: api.Drop, Key: key}
}

func add(key string, n int64) api.Step {
	return api.Step{Kind: api.Add, Key: key, N: n}
}

func cancel(name string) api.Step {
	return api.Step{Kind: api.Cancel, Key: name}
}

func steps(l ...api.Step) []api.Step {
	return l
}

// long is a text of n bytes.
func long(n int) string {
	return strings.Repeat("x", n)
}

// rightSteps are right ones of all kinds, at all edges.
func rightSteps() []api.Step {
	l := steps(add("n", 0), add("n", 1), add("n", -1), add("n", greatest), add("n", least))
	for _, key := range []string{"a", "\x00", "\xff", "k\xc3\x28", " ", "ä", long(api.MaxName - 1), long(api.MaxName)} {
		l = append(l, drop(key), add(key, -7), cancel(key))
		for _, value := range []string{"", "\x00", "v", "\xff\xfe", "-12", long(api.MaxValue - 1), long(api.MaxValue)} {
			l = append(l, put(key, value))
		}
	}
	return l
}

// wrongSteps are wrong ones, by what is wrong.
func wrongSteps() map[string]api.Step {
	return map[string]api.Step{
		"nothing":                       {},
		"kind 0":                        {Key: "a"},
		"kind 5":                        {Kind: 5, Key: "a"},
		"kind -1":                       {Kind: -1, Key: "a"},
		"kind 257":                      {Kind: 257, Key: "a"},
		"the least kind":                {Kind: api.StepKind(least), Key: "a"},
		"the greatest kind":             {Kind: api.StepKind(greatest), Key: "a"},
		"Put without a Key":             put("", "v"),
		"Drop without a Key":            drop(""),
		"Add without a Key":             add("", 1),
		"Cancel without a Key":          cancel(""),
		"Put of a long Key":             put(long(api.MaxName+1), "v"),
		"Drop of a long Key":            drop(long(api.MaxName + 1)),
		"Add of a long Key":             add(long(api.MaxName+1), 1),
		"Cancel of a long Key":          cancel(long(api.MaxName + 1)),
		"Put of a Key of 256 and more":  put(long(257), "v"),
		"runes are counted as bytes":    put(strings.Repeat("ä", 9), ""),
		"Put of a long Value":           put("a", long(api.MaxValue+1)),
		"Put of a Value of runes":       put("a", strings.Repeat("ä", 31)),
		"Put with an N":                 {Kind: api.Put, Key: "a", Value: "v", N: 1},
		"Put with an N below 0":         {Kind: api.Put, Key: "a", N: -1},
		"Drop with a Value":             {Kind: api.Drop, Key: "a", Value: "v"},
		"Drop with an N":                {Kind: api.Drop, Key: "a", N: 1},
		"Drop with an N below 0":        {Kind: api.Drop, Key: "a", N: least},
		"Add with a Value":              {Kind: api.Add, Key: "a", Value: "v", N: 1},
		"Add with a number as a Value":  {Kind: api.Add, Key: "a", Value: "1"},
		"Cancel with a Value":           {Kind: api.Cancel, Key: "a", Value: "\x00"},
		"Cancel with an N":              {Kind: api.Cancel, Key: "a", N: greatest},
		"Cancel with an N below 0":      {Kind: api.Cancel, Key: "a", N: -1},
		"Cancel with a long Value":      {Kind: api.Cancel, Key: "a", Value: long(300)},
		"kind 0 with all else of a Put": {Key: "a", Value: "v"},
	}
}

// trieOf has values by keys, given one behind another.
func trieOf(pairs ...string) *trie.Trie {
	t := trie.New()
	for pair := range slices.Chunk(pairs, 2) {
		t.Put(pair[0], pair[1])
	}
	return t
}

// holds says that a trie has just these values by rising keys, in no more nodes than it must have.
func holds(t *testing.T, x *trie.Trie, pairs ...string) {
	t.Helper()
	want := trieOf(pairs...)
	if !slices.Equal(all(x), all(want)) || x.Nodes() != want.Nodes() {
		t.Errorf("the trie has %q in %d nodes, want %q in %d", all(x), x.Nodes(), all(want), want.Nodes())
	}
}

// all are a trie's entries.
func all(x *trie.Trie) []trie.Entry {
	return x.Walk("", x.Len()+1)
}

// does does an action without an error, and says which timers it should have cancelled.
func does(t *testing.T, x *trie.Trie, l []api.Step, cancelled ...string) {
	t.Helper()
	names, e := Do(x, l)
	if e != api.OK || !slices.Equal(names, cancelled) {
		t.Errorf("Do(%v): %q, %v, want %q", l, names, e, cancelled)
	}
}

// refuses does steps with an error, and says that the trie stays.
func refuses(t *testing.T, x *trie.Trie, l []api.Step, want api.Errno) {
	t.Helper()
	before, nodes := all(x), x.Nodes()
	if names, e := Do(x, l); e != want || len(names) != 0 {
		t.Errorf("Do(%v): %q, %v, want %v", l, names, e, want)
	}
	if !slices.Equal(all(x), before) || x.Nodes() != nodes {
		t.Errorf("Do(%v): the trie has %q in %d nodes, had %q in %d", l, all(x), x.Nodes(), before, nodes)
	}
}
