package action

import (
	"slices"
	"testing"

	"belfry/api"
	"belfry/trie"
)

// P9.1: each kind on a key that is there, and on one that is not.
func TestDoOfEachKind(t *testing.T) {
	for _, c := range []struct {
		name string
		step api.Step
		want []string // the trie behind it; it had a and n
	}{
		{"Put of a new key", put("b", "v"), []string{"a", "x", "b", "v", "n", "10"}},
		{"Put of a key that is there", put("a", "v"), []string{"a", "v", "n", "10"}},
		{"Put of the same", put("a", "x"), []string{"a", "x", "n", "10"}},
		{"Put of no Value", put("a", ""), []string{"a", "", "n", "10"}},
		{"Put of a new key without a Value", put("b", ""), []string{"a", "x", "b", "", "n", "10"}},
		{"Put of a key that begins another one's", put("ab", "v"), []string{"a", "x", "ab", "v", "n", "10"}},
		{"Drop of a key that is there", drop("a"), []string{"n", "10"}},
		{"Drop of a key that is not there", drop("b"), []string{"a", "x", "n", "10"}},
		{"Drop of what begins with a key", drop("ab"), []string{"a", "x", "n", "10"}},
		{"Add", add("n", 5), []string{"a", "x", "n", "15"}},
		{"Add below 0", add("n", -25), []string{"a", "x", "n", "-15"}},
		{"Add of 0", add("n", 0), []string{"a", "x", "n", "10"}},
		{"Add to a key that is not there", add("m", 7), []string{"a", "x", "m", "7", "n", "10"}},
		{"Add of 0 to a key that is not there", add("m", 0), []string{"a", "x", "m", "0", "n", "10"}},
		{"Add of the least to a key that is not there", add("m", least), []string{"a", "x", "m", "-9223372036854775808", "n", "10"}},
	} {
		t.Run(c.name, func(t *testing.T) {
			x := trieOf("a", "x", "n", "10")
			does(t, x, steps(c.step))
			holds(t, x, c.want...)
		})
	}
}

// P9.1: a Cancel does nothing to a key of its timer's name.
func TestDoOfCancel(t *testing.T) {
	x := trieOf("a", "x", "n", "10")
	does(t, x, steps(cancel("a")), "a")
	does(t, x, steps(cancel("none")), "none")
	holds(t, x, "a", "x", "n", "10")
}

// P9.1: no step does nothing.
func TestDoOfNothing(t *testing.T) {
	for _, x := range []*trie.Trie{trieOf(), trieOf("a", "x")} {
		before := all(x)
		does(t, x, nil)
		does(t, x, steps())
		if !slices.Equal(all(x), before) {
			t.Errorf("the trie has %q", all(x))
		}
	}
}

// P9.1: several steps on one key, in order.
func TestDoOnOneKey(t *testing.T) {
	for _, c := range []struct {
		steps []api.Step
		want  []string // of the key k, which was 10
	}{
		{steps(put("k", "1"), put("k", "2")), []string{"k", "2"}},
		{steps(put("k", "1"), add("k", 5)), []string{"k", "6"}},
		{steps(add("k", 5), put("k", "1")), []string{"k", "1"}},
		{steps(put("k", "no number"), put("k", "1"), add("k", 1)), []string{"k", "2"}},
		{steps(put("k", "1"), drop("k")), nil},
		{steps(drop("k"), put("k", "1")), []string{"k", "1"}},
		{steps(drop("k"), add("k", 3)), []string{"k", "3"}},
		{steps(add("k", 3), drop("k")), nil},
		{steps(drop("k"), drop("k")), nil},
		{steps(add("k", 1), add("k", 1), add("k", -5), add("k", 1)), []string{"k", "8"}},
		{steps(add("k", 1), drop("k"), add("k", 1), add("k", 1)), []string{"k", "2"}},
		{steps(drop("k"), add("k", greatest), add("k", least), add("k", 1)), []string{"k", "0"}},
		{steps(put("k", "x"), drop("k"), add("k", -1), cancel("k")), []string{"k", "-1"}},
	} {
		x := trieOf("k", "10")
		names, e := Do(x, c.steps)
		if e != api.OK || len(names) > 1 {
			t.Errorf("Do(%v): %q, %v", c.steps, names, e)
		}
		holds(t, x, c.want...)
		y := trieOf("j", "", "k", "10", "kk", "y", "l", "-1")
		Do(y, c.steps)
		holds(t, y, slices.Concat([]string{"j", ""}, c.want, []string{"kk", "y", "l", "-1"})...)
	}
}

// P9.1: steps on several keys, of which one begins another one.
func TestDoOnSeveralKeys(t *testing.T) {
	x := trieOf("ab", "1", "abc", "2", "b", "3")
	does(t, x, steps(drop("ab"), add("abc", 5), put("abd", ""), add("a", -1)))
	holds(t, x, "a", "-1", "abc", "7", "abd", "", "b", "3")
	does(t, x, steps(drop("a"), drop("abd"), drop("abc"), drop("b")))
	holds(t, x)
}

// P9.1: the names of all Cancels in their order, one that is there twice told twice.
func TestCancelsInOrder(t *testing.T) {
	x := trieOf("n", "10")
	does(t, x, steps(cancel("z"), put("a", "x"), cancel("a"), cancel("z")), "z", "a", "z")
	holds(t, x, "a", "x", "n", "10")
	does(t, x, steps(cancel("\xff"), cancel("\x00"), cancel("b"), cancel("b")), "\xff", "\x00", "b", "b")
	does(t, x, steps(drop("a"), add("n", 1), cancel("t")), "t")
	does(t, x, steps(cancel("t"), drop("a"), add("n", 1)), "t")
	holds(t, x, "n", "12")
}

// P9.1: numbers at both ends of 64 bits, which an action may reach and not go beyond.
func TestDoAtBothEnds(t *testing.T) {
	x := trieOf("lo", "-9223372036854775807", "hi", "9223372036854775806")
	does(t, x, steps(add("hi", 1), add("lo", -1)))
	holds(t, x, "hi", "9223372036854775807", "lo", "-9223372036854775808")
	refuses(t, x, steps(add("hi", 1)), api.ErrMuch)
	refuses(t, x, steps(add("lo", -1)), api.ErrMuch)
	refuses(t, x, steps(add("new", greatest), add("new", 1), add("new", -1)), api.ErrMuch)
	does(t, x, steps(add("hi", least), add("lo", greatest)))
	holds(t, x, "hi", "-1", "lo", "-1")
}

// P9.1: a nil trie is told ahead of all else.
func TestDoOnNil(t *testing.T) {
	for name, l := range map[string][]api.Step{
		"nil": nil, "no step": steps(), "right": steps(put("a", "x"), cancel("t")), "wrong": steps(api.Step{}), "too many": slices.Repeat(steps(drop("a")), 5),
		"too many wrong ones": make([]api.Step, 5), "a sum that does not fit": steps(add("a", greatest), add("a", 1)), "no number": steps(put("a", "x"), add("a", 1)),
	} {
		if names, e := Do(nil, l); e != api.ErrArg || len(names) != 0 {
			t.Errorf("%s: %q, %v", name, names, e)
		}
	}
}

// P9.1, P9.3: what is no action is not done; too many steps are told ahead of a wrong one, and that ahead of an Add's error.
func TestDoOfNoAction(t *testing.T) {
	x := trieOf("a", "x", "n", "10")
	noNumber, tooMuch := add("a", 1), add("n", greatest)
	for name, s := range wrongSteps() {
		t.Run(name, func(t *testing.T) {
			for _, l := range [][]api.Step{{s}, {put("b", "v"), s}, {s, drop("a")}, {drop("a"), s, drop("n")}, {noNumber, s}, {s, tooMuch}, {tooMuch, drop("a"), cancel("t"), s}} {
				refuses(t, x, l, api.ErrStep)
			}
			refuses(t, x, steps(s, s, s, s, s), api.ErrMuch)
		})
	}
	for _, s := range []api.Step{put("b", "v"), drop("a"), add("n", 1), noNumber, tooMuch, cancel("t")} {
		for _, n := range []int{5, 6, 1000} {
			refuses(t, x, slices.Repeat(steps(s), n), api.ErrMuch)
		}
	}
}

// P9.3: an Add with an error, at whatever place, leaves the trie as it was, though the steps beside it would make keys, change them, take them away, and part nodes.
func TestAllOrNone(t *testing.T) {
	x := trieOf("ab", "x", "abcd", "y", "n", "10", "end", "9223372036854775807", "no", "1.5", "none", "")
	others := [][]api.Step{
		{put("abx", "v"), put("ab", "w"), put("z", "")},
		{drop("ab"), drop("abcd"), drop("n")},
		{add("n", 1), add("n", 1), add("new", 1)},
		{cancel("t"), cancel("ab"), cancel("n")},
		{put("abce", "v"), drop("abcd"), cancel("t")},
		{drop("n"), put("n", "x"), drop("ab")},
	}
	for _, c := range []struct {
		step api.Step
		want api.Errno
	}{
		{add("no", 1), api.ErrNumber}, {add("none", 0), api.ErrNumber}, {add("end", 1), api.ErrMuch}, {add("end", greatest), api.ErrMuch},
	} {
		for _, l := range others {
			for place := range len(l) + 1 {
				refuses(t, x, slices.Insert(slices.Clone(l), place, c.step), c.want)
			}
		}
	}
}

// P9.1, P9.3: an Add's error is that of what the steps ahead of it left, whatever comes behind; of two the first one's is told.
func TestFirstAddsError(t *testing.T) {
	x := trieOf("n", "10", "end", "9223372036854775807", "no", "x")
	refuses(t, x, steps(put("n", "x"), add("n", 1)), api.ErrNumber)
	refuses(t, x, steps(put("n", ""), add("n", 1), put("n", "1")), api.ErrNumber)
	refuses(t, x, steps(put("n", "-0"), add("n", 0)), api.ErrNumber)
	refuses(t, x, steps(put("new", "-9223372036854775808"), add("new", -1)), api.ErrMuch)
	refuses(t, x, steps(drop("n"), add("n", least), add("n", -1)), api.ErrMuch)
	refuses(t, x, steps(add("no", 1), add("end", 1)), api.ErrNumber)
	refuses(t, x, steps(add("end", 1), add("no", 1)), api.ErrMuch)
	refuses(t, x, steps(put("end", "x"), add("end", 1), add("new", greatest), add("new", 1)), api.ErrNumber)
	refuses(t, x, steps(add("end", 1), drop("end"), add("end", 1)), api.ErrMuch)
	does(t, x, steps(drop("end"), add("end", 1), put("no", "0"), add("no", 1)))
	holds(t, x, "end", "1", "n", "10", "no", "1")
}

// P9.3: two actions, one after the other, do what their steps do together, wherever they are parted.
func TestTwoActionsAndOne(t *testing.T) {
	for _, l := range [][]api.Step{
		{put("a", "1"), add("a", 1), drop("b"), cancel("t")},
		{cancel("t"), drop("a"), add("a", 1), cancel("s")},
		{add("n", 1), put("n", "5"), add("n", 1), add("n", -6)},
		{drop("n"), drop("n"), put("n", ""), put("abc", "v")},
		{add("m", greatest), add("m", -greatest), add("m", least), drop("a")},
	} {
		for place := range len(l) + 1 {
			x, y := trieOf("a", "x", "b", "y", "n", "10"), trieOf("a", "x", "b", "y", "n", "10")
			together, e := Do(x, l)
			first, e1 := Do(y, l[:place])
			second, e2 := Do(y, l[place:])
			if e != api.OK || e1 != api.OK || e2 != api.OK || !slices.Equal(slices.Concat(first, second), together) {
				t.Errorf("%v at %d: %q, %q and %q, %v, %v and %v", l, place, together, first, second, e, e1, e2)
			}
			if !slices.Equal(all(x), all(y)) || x.Nodes() != y.Nodes() {
				t.Errorf("%v at %d: %q in %d nodes together, %q in %d one after the other", l, place, all(x), x.Nodes(), all(y), y.Nodes())
			}
		}
	}
}
