package trie

import (
	"math/rand"
	"strings"
	"testing"
)

// sound says that the tree stands as it should, and that it is counted right.
func sound(t *testing.T, x *Trie) {
	t.Helper()
	if x == nil {
		return
	}
	entries, nodes := 0, 0
	var visit func(n *node)
	visit = func(n *node) {
		nodes++
		if n.has {
			entries++
		} else if n.value != "" {
			t.Errorf("the node %q has no value, but %q", n.label, n.value)
		}
		if n != x.root && !n.has && len(n.kids) < 2 {
			t.Errorf("the node %q has no value and %d kids", n.label, len(n.kids))
		}
		for first, kid := range n.kids {
			if kid.label == "" || kid.label[0] != first {
				t.Errorf("the node %q stands at %q", kid.label, first)
			}
			visit(kid)
		}
	}
	visit(x.root)
	if x.root.label != "" {
		t.Errorf("the root's label is %q", x.root.label)
	}
	if x.Len() != entries || x.Nodes() != nodes {
		t.Errorf("%d entries, %d nodes, but there are %d and %d", x.Len(), x.Nodes(), entries, nodes)
	}
}

// nodesOf is how many nodes keys ask for: one for each, each longest common beginning of two, and the root.
func nodesOf(keys []string) int {
	places := map[string]struct{}{"": {}}
	for i, a := range keys {
		places[a] = struct{}{}
		for _, b := range keys[:i] {
			n := 0
			for n < len(a) && n < len(b) && a[n] == b[n] {
				n++
			}
			places[a[:n]] = struct{}{}
		}
	}
	return len(places)
}

// P8.3: how many nodes there are behind each Put and Drop; "-" ahead of a key drops it.
func TestNodes(t *testing.T) {
	type step struct {
		what string
		want int
	}
	for name, steps := range map[string][]step{
		"the root stays":                      {{"", 1}, {"-", 1}, {"", 1}, {"a", 2}, {"-", 2}, {"-a", 1}},
		"a kid comes and goes":                {{"a", 2}, {"-a", 1}, {"abc", 2}, {"-abc", 1}},
		"a node is parted by a key inside":    {{"abc", 2}, {"ab", 3}, {"a", 4}, {"-ab", 3}, {"-a", 2}, {"-abc", 1}},
		"a key behind another one":            {{"a", 2}, {"ab", 3}, {"abc", 4}, {"-abc", 3}, {"-ab", 2}, {"-a", 1}},
		"a node is parted by a key beside":    {{"abc", 2}, {"abd", 4}, {"-abc", 2}, {"-abd", 1}},
		"what is in common becomes a key":     {{"abc", 2}, {"abd", 4}, {"ab", 4}, {"-abc", 3}, {"-abd", 2}, {"-ab", 1}},
		"a key becomes what is in common":     {{"ab", 2}, {"abc", 3}, {"abd", 4}, {"-ab", 4}, {"-abd", 2}, {"-abc", 1}},
		"three kids, then two, then one":      {{"ab", 2}, {"ac", 4}, {"ad", 5}, {"-ac", 4}, {"-ab", 2}, {"-ad", 1}},
		"the root has one kid and no value":   {{"a", 2}, {"b", 3}, {"-a", 2}, {"c", 3}, {"-b", 2}, {"-c", 1}},
		"a kid goes, and its parent is a key": {{"a", 2}, {"ab", 3}, {"ac", 4}, {"-ab", 3}, {"-ac", 2}, {"-a", 1}},
		"two parted, one above the other":     {{"abcd", 2}, {"abce", 4}, {"axyz", 6}, {"-axyz", 4}, {"-abcd", 2}, {"-abce", 1}},
		"the lower of two becomes one":        {{"abcd", 2}, {"abce", 4}, {"axyz", 6}, {"-abcd", 4}, {"-abce", 2}, {"-axyz", 1}},
		"nothing is dropped":                  {{"abc", 2}, {"-ab", 2}, {"-abcd", 2}, {"-", 2}, {"abd", 4}, {"-ab", 4}, {"-a", 4}},
		"a key again":                         {{"abc", 2}, {"abc", 2}, {"ab", 3}, {"ab", 3}, {"abc", 3}},
	} {
		x := New()
		for i, s := range steps {
			if k, drop := strings.CutPrefix(s.what, "-"); drop {
				x.Drop(k)
			} else {
				x.Put(k, "v")
			}
			if x.Nodes() != s.want {
				t.Errorf("%s: step %d, %q: %d nodes, want %d", name, i, s.what, x.Nodes(), s.want)
			}
			sound(t, x)
		}
	}
}

// P8.3: two that become one lead on to all that the lower one led to.
func TestTwoBecomeOne(t *testing.T) {
	x := trieOf(t, "ab", "abcd", "abcde", "abcdf", "b")
	drops(t, x, "ab", "ab!", true)
	holds(t, x, marked("abcd", "abcde", "abcdf", "b")...)
	drops(t, x, "abcd", "abcd!", true)
	holds(t, x, marked("abcde", "abcdf", "b")...)
	puts(t, x, "abc", "abc!", "", false)
	holds(t, x, marked("abc", "abcde", "abcdf", "b")...)
	puts(t, x, "ax", "ax!", "", false)
	holds(t, x, marked("abc", "abcde", "abcdf", "ax", "b")...)
	drops(t, x, "abcdf", "abcdf!", true)
	drops(t, x, "abc", "abc!", true)
	holds(t, x, marked("abcde", "ax", "b")...)
	if x.Nodes() != 5 {
		t.Errorf("%d nodes, want 5", x.Nodes())
	}
}

// P8.3: the same keys in every order give the same nodes.
func TestAnyOrder(t *testing.T) {
	keys := []string{"", "ab", "abc", "abd", "acd", "b"}
	want := nodesOf(keys)
	var place func(from int)
	place = func(from int) {
		if from == len(keys) {
			x := trieOf(t, keys...)
			if x.Nodes() != want {
				t.Errorf("%q: %d nodes, want %d", keys, x.Nodes(), want)
			}
			sound(t, x)
			return
		}
		for i := from; i < len(keys); i++ {
			keys[from], keys[i] = keys[i], keys[from]
			place(from + 1)
			keys[from], keys[i] = keys[i], keys[from]
		}
	}
	place(0)
}

// P8.3: the same keys by another way, others put and dropped between, give the same nodes.
func TestAnyWay(t *testing.T) {
	r := rand.New(rand.NewSource(8))
	for range 200 {
		all := keysOf(r, 24)
		stay, leave := all[:len(all)/2], all[len(all)/2:]
		plain := trieOf(t, stay...)
		x := trieOf(t, all...)
		for _, i := range r.Perm(len(stay)) {
			if r.Intn(2) == 0 {
				x.Drop(stay[i])
				x.Put(stay[i], stay[i]+"!")
			}
		}
		for _, i := range r.Perm(len(leave)) {
			drops(t, x, leave[i], leave[i]+"!", true)
		}
		holds(t, x, plain.Walk("", 99)...)
		if x.Nodes() != plain.Nodes() || x.Nodes() != nodesOf(stay) {
			t.Errorf("%q: %d nodes by another way, %d plainly, want %d", stay, x.Nodes(), plain.Nodes(), nodesOf(stay))
		}
	}
}

// keysOf are up to n keys of chance that have much in common, each once.
func keysOf(r *rand.Rand, n int) []string {
	var keys []string
	seen := map[string]int{}
	for range n {
		k := someKey(r)
		if seen[k]++; seen[k] == 1 {
			keys = append(keys, k)
		}
	}
	return keys
}

// someKey is a key of few letters: it often begins others, and is begun by them.
func someKey(r *rand.Rand) string {
	letters := []string{"a", "b", "\x00", "\xff", "aab", "ä"}
	var b strings.Builder
	for range r.Intn(6) {
		b.WriteString(letters[r.Intn(len(letters))])
	}
	return b.String()
}
