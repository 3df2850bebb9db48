package disk

import (
	"bytes"
	"math"
	"math/rand"
	"slices"
	"strings"
	"testing"

	"belfry/api"
)

// want holds a call's error against the one that it should answer.
func want(t *testing.T, what string, got, e api.Errno) {
	t.Helper()
	if got != e {
		t.Errorf("%s: error %d, want %d", what, got, e)
	}
}

// holds says that a segment is there with these bytes, so many of them safe.
func holds(t *testing.T, d *Disk, segment int, text string, safe int) {
	t.Helper()
	b, e := d.Read(segment)
	if e != api.OK || string(b) != text {
		t.Errorf("segment %d: %q, error %d, want %q", segment, b, e, text)
	}
	if n := d.Safe(segment); n != safe {
		t.Errorf("segment %d: %d bytes safe, want %d", segment, n, safe)
	}
}

// lacks says that a segment is not there, whatever is asked.
func lacks(t *testing.T, d *Disk, segment int) {
	t.Helper()
	b, e := d.Read(segment)
	if e != api.ErrSegment || len(b) != 0 {
		t.Errorf("segment %d, not there: %q, error %d", segment, b, e)
	}
	if n := d.Safe(segment); n != 0 {
		t.Errorf("segment %d, not there: %d bytes safe", segment, n)
	}
	if slices.Contains(d.Segments(), segment) {
		t.Errorf("segment %d, not there, is among %v", segment, d.Segments())
	}
}

func numbers(t *testing.T, d *Disk, all ...int) {
	t.Helper()
	if got := d.Segments(); !slices.Equal(got, all) {
		t.Errorf("segments %v, want %v", got, all)
	}
}

// disk makes one of texts: what stands ahead of the bar is safe.
func disk(texts map[int]string) *Disk {
	d := New()
	for number, text := range texts {
		safe, rest, _ := strings.Cut(text, "|")
		d.Append(number, []byte(safe))
		d.Sync(number)
		d.Append(number, []byte(rest))
	}
	return d
}

// P3.1: a new disk has nothing.
func TestNew(t *testing.T) {
	d := New()
	numbers(t, d)
	lacks(t, d, 0)
	if len(d.Root()) != 0 {
		t.Errorf("root %q", d.Root())
	}
	d.Append(0, []byte("a"))
	d.Swap([]byte("r"))
	if other := New(); len(other.Segments()) != 0 || len(other.Root()) != 0 {
		t.Error("two disks are one")
	}
}

// P3.1: bytes stand behind those that are there, and are safe when they are synced.
func TestAppendAndSync(t *testing.T) {
	d := New()
	want(t, "Append", d.Append(3, []byte("one")), api.OK)
	holds(t, d, 3, "one", 0)
	want(t, "Append", d.Append(3, []byte("two")), api.OK)
	holds(t, d, 3, "onetwo", 0)
	want(t, "Sync", d.Sync(3), api.OK)
	holds(t, d, 3, "onetwo", 6)
	want(t, "Append", d.Append(3, []byte("three")), api.OK)
	holds(t, d, 3, "onetwothree", 6)
	want(t, "Sync", d.Sync(3), api.OK)
	want(t, "Sync again", d.Sync(3), api.OK)
	holds(t, d, 3, "onetwothree", 11)
	want(t, "Append of nothing", d.Append(3, nil), api.OK)
	holds(t, d, 3, "onetwothree", 11)
	numbers(t, d, 3)
}

// P3.1: a segment may be there without bytes.
func TestAppendNothing(t *testing.T) {
	d := New()
	want(t, "Append nil", d.Append(0, nil), api.OK)
	want(t, "Append empty", d.Append(math.MaxInt, []byte{}), api.OK)
	numbers(t, d, 0, math.MaxInt)
	holds(t, d, 0, "", 0)
	holds(t, d, math.MaxInt, "", 0)
	want(t, "Sync", d.Sync(0), api.OK)
	want(t, "Cut", d.Cut(0, 0), api.OK)
	want(t, "Remove", d.Remove(0), api.OK)
	numbers(t, d, math.MaxInt)
}

// P3.1: segments' bytes are their own.
func TestSegmentsApart(t *testing.T) {
	d := New()
	for _, number := range []int{9, 0, 4, 1 << 40} {
		d.Append(number, []byte{byte(number), 'a'})
	}
	d.Sync(4)
	d.Append(9, []byte("more"))
	numbers(t, d, 0, 4, 9, 1<<40)
	holds(t, d, 0, "\x00a", 0)
	holds(t, d, 4, "\x04a", 2)
	holds(t, d, 9, "\x09amore", 0)
	holds(t, d, 1<<40, "\x00a", 0)
}

// P3.1: a number below 0 is no segment's.
func TestBelowNought(t *testing.T) {
	d := disk(map[int]string{1: "a|b"})
	for _, number := range []int{-1, -2, math.MinInt} {
		want(t, "Append", d.Append(number, []byte("x")), api.ErrSegment)
		want(t, "Append of nothing", d.Append(number, nil), api.ErrSegment)
		want(t, "Sync", d.Sync(number), api.ErrSegment)
		want(t, "Cut", d.Cut(number, 0), api.ErrSegment)
		want(t, "Remove", d.Remove(number), api.ErrSegment)
		lacks(t, d, number)
	}
	numbers(t, d, 1)
	holds(t, d, 1, "ab", 1)
}

// P3.1: what is asked of a segment that is not there.
func TestNotThere(t *testing.T) {
	for _, d := range []*Disk{New(), disk(map[int]string{1: "a|b", 3: "c|"})} {
		before := d.Segments()
		for _, number := range []int{0, 2, 4, math.MaxInt} {
			want(t, "Sync", d.Sync(number), api.ErrSegment)
			want(t, "Cut", d.Cut(number, 0), api.ErrSegment)
			want(t, "Cut at -1", d.Cut(number, -1), api.ErrSegment)
			want(t, "Remove", d.Remove(number), api.ErrSegment)
			lacks(t, d, number)
		}
		numbers(t, d, before...)
	}
}

// P3.1: a segment may be full, and has no room for one byte more.
func TestFullSegment(t *testing.T) {
	full := strings.Repeat("x", api.SegmentSize)
	d := New()
	want(t, "all at once", d.Append(1, []byte(full)), api.OK)
	want(t, "one more", d.Append(1, []byte("y")), api.ErrSegment)
	want(t, "none more", d.Append(1, nil), api.OK)
	holds(t, d, 1, full, 0)

	want(t, "one too many at once", d.Append(2, []byte(full+"y")), api.ErrSegment)
	lacks(t, d, 2)
	numbers(t, d, 1)

	want(t, "all but one", d.Append(2, []byte(full[1:])), api.OK)
	want(t, "Sync", d.Sync(2), api.OK)
	want(t, "two more", d.Append(2, []byte("yz")), api.ErrSegment)
	holds(t, d, 2, full[1:], api.SegmentSize-1)
	want(t, "the last one", d.Append(2, []byte("y")), api.OK)
	holds(t, d, 2, full[1:]+"y", api.SegmentSize-1)

	want(t, "Cut", d.Cut(2, 1), api.OK)
	want(t, "as many as were cut", d.Append(2, []byte(full[1:])), api.OK)
	holds(t, d, 2, full, 1)
}

// P3.1: as many segments as may be, and not one more.
func TestManySegments(t *testing.T) {
	d := New()
	all := make([]int, api.MaxSegments)
	for i := range all {
		all[i] = 3 * i
		want(t, "Append", d.Append(3*(api.MaxSegments-1-i), []byte("a")), api.OK)
	}
	numbers(t, d, all...)
	want(t, "one more", d.Append(1, []byte("b")), api.ErrSegment)
	want(t, "one more, empty", d.Append(1, nil), api.ErrSegment)
	lacks(t, d, 1)
	want(t, "to one that is there", d.Append(0, []byte("b")), api.OK)
	holds(t, d, 0, "ab", 0)
	want(t, "Remove", d.Remove(3), api.OK)
	want(t, "in its stead", d.Append(1, nil), api.OK)
	all[1] = 1
	numbers(t, d, all...)
	want(t, "one more again", d.Append(2, nil), api.ErrSegment)

	keep := slices.Repeat([]int{1}, api.MaxSegments)
	after := d.Power(keep)
	numbers(t, after, slices.DeleteFunc(slices.Clone(all), func(n int) bool { return n == 1 })...)
	want(t, "room behind power", after.Append(2, nil), api.OK)
	want(t, "no more room", after.Append(1, nil), api.ErrSegment)
}

// P3.1: Cut leaves the first bytes, all safe, at 0 and at all of them too.
func TestCut(t *testing.T) {
	for n, left := range []string{"", "a", "ab", "abc", "abcd", "abcde"} {
		d := disk(map[int]string{0: "k|l", 5: "abc|de"})
		want(t, "Cut", d.Cut(5, n), api.OK)
		holds(t, d, 5, left, n)
		holds(t, d, 0, "kl", 1)
		numbers(t, d, 0, 5)
		want(t, "Append", d.Append(5, []byte("z")), api.OK)
		holds(t, d, 5, left+"z", n)
		want(t, "Sync", d.Sync(5), api.OK)
		holds(t, d, 5, left+"z", n+1)
	}
	d := disk(map[int]string{5: "abc|de"})
	for _, n := range []int{6, 7, api.SegmentSize, math.MaxInt, -1, -3, math.MinInt} {
		want(t, "Cut", d.Cut(5, n), api.ErrSegment)
		holds(t, d, 5, "abcde", 3)
	}
}

// P3.1: a segment that was taken away begins anew.
func TestRemove(t *testing.T) {
	d := disk(map[int]string{1: "a|b", 2: "c|d", 3: "e|f"})
	want(t, "Remove", d.Remove(2), api.OK)
	lacks(t, d, 2)
	numbers(t, d, 1, 3)
	want(t, "Remove again", d.Remove(2), api.ErrSegment)
	want(t, "Sync", d.Sync(2), api.ErrSegment)
	want(t, "Append", d.Append(2, []byte("new")), api.OK)
	holds(t, d, 2, "new", 0)
	holds(t, d, 1, "ab", 1)
	holds(t, d, 3, "ef", 1)
}

// P3.1: the root is changed at once.
func TestSwap(t *testing.T) {
	d := New()
	full := strings.Repeat("r", api.SegmentSize)
	for _, root := range []string{"longer", "r", full, "", "\x00"} {
		want(t, "Swap", d.Swap([]byte(root)), api.OK)
		if string(d.Root()) != root {
			t.Errorf("root %q, want %q", d.Root(), root)
		}
		want(t, "Swap, too many", d.Swap([]byte(full+"r")), api.ErrRoot)
		if string(d.Root()) != root {
			t.Errorf("root %q behind an error, want %q", d.Root(), root)
		}
	}
	want(t, "Swap nil", d.Swap(nil), api.OK)
	if len(d.Root()) != 0 {
		t.Errorf("root %q", d.Root())
	}
	numbers(t, d)
}

// P3.1: a nil disk answers ErrArg, ahead of all else, and nothing.
func TestNil(t *testing.T) {
	var d *Disk
	large := make([]byte, api.SegmentSize+1)
	for _, number := range []int{-1, 0, 1} {
		want(t, "Append", d.Append(number, nil), api.ErrArg)
		want(t, "Append, too much", d.Append(number, large), api.ErrArg)
		want(t, "Sync", d.Sync(number), api.ErrArg)
		want(t, "Cut", d.Cut(number, -1), api.ErrArg)
		want(t, "Remove", d.Remove(number), api.ErrArg)
		b, e := d.Read(number)
		want(t, "Read", e, api.ErrArg)
		if len(b) != 0 || d.Safe(number) != 0 {
			t.Errorf("%q, %d safe", b, d.Safe(number))
		}
	}
	want(t, "Swap", d.Swap(nil), api.ErrArg)
	want(t, "Swap, too much", d.Swap(large), api.ErrArg)
	if len(d.Segments()) != 0 || len(d.Root()) != 0 {
		t.Error("a nil disk has something")
	}
	if d.Power(nil) != nil || d.Power([]int{1}) != nil {
		t.Error("a nil disk's power leaves a disk")
	}
}

// Rule 4: what is handed in is not kept, not written into, and not read behind its length.
func TestHandedIn(t *testing.T) {
	d := New()
	memory := []byte("abcdef")
	d.Append(1, memory[:3])
	d.Append(1, memory[:2])
	d.Append(2, memory[:1])
	d.Swap(memory[1:3])
	d.Append(1, []byte("zz"))
	d.Cut(1, 1)
	d.Append(1, []byte("yy"))
	if string(memory) != "abcdef" {
		t.Errorf("handed in, now %q", memory)
	}
	copy(memory, "------")
	holds(t, d, 1, "ayy", 1)
	holds(t, d, 2, "a", 0)
	if string(d.Root()) != "bc" {
		t.Errorf("root %q", d.Root())
	}
	keep := []int{-7, 1, 9}
	d.Power(keep[:2])
	if !slices.Equal(keep, []int{-7, 1, 9}) {
		t.Errorf("keep, now %v", keep)
	}
}

// Rule 4: what is handed out is new memory, its spare capacity too.
func TestHandedOut(t *testing.T) {
	d := disk(map[int]string{1: "ab|cd", 2: "e|"})
	d.Append(1, []byte("ef"))
	d.Swap([]byte("root"))
	spoil := func() {
		for _, number := range d.Segments() {
			b, _ := d.Read(number)
			clear(b)
			clear(b[:cap(b)])
		}
		root := d.Root()
		clear(root)
		clear(root[:cap(root)])
		all := d.Segments()
		clear(all[:cap(all)])
	}
	spoil()
	d.Append(1, []byte("gh"))
	spoil()
	numbers(t, d, 1, 2)
	holds(t, d, 1, "abcdefgh", 2)
	holds(t, d, 2, "e", 1)
	if string(d.Root()) != "root" {
		t.Errorf("root %q", d.Root())
	}
	early, _ := d.Read(1)
	root := d.Root()
	d.Cut(1, 1)
	d.Append(1, []byte("zzzz"))
	d.Swap([]byte("new!"))
	if string(early) != "abcdefgh" || string(root) != "root" {
		t.Errorf("handed out, now %q and %q", early, root)
	}
}

// P3.1 (D2): which keep leaves what, of 2 safe bytes and 3 others.
func TestPowerKeep(t *testing.T) {
	d := disk(map[int]string{8: "ab|cde"})
	cases := []struct {
		keep int
		want string
	}{
		{0, "ab"}, {1, "abc"}, {2, "abcd"}, {3, "abcde"},
		{4, "ab"}, {5, "abc"}, {7, "abcde"}, {8, "ab"}, {4*api.SegmentSize + 1, "abc"},
		{-1, "ab"}, {-2, "abc"}, {-3, "abcd"}, {-4, "abcde"},
		{-5, "ab"}, {-6, "abc"}, {-8, "abcde"},
		{math.MaxInt, "abcde"}, {math.MaxInt - 1, "abcd"}, {math.MaxInt - 3, "ab"},
		{math.MinInt, "abcde"}, {math.MinInt + 1, "abcd"}, {math.MinInt + 3, "ab"},
	}
	for _, c := range cases {
		after := d.Power([]int{c.keep})
		numbers(t, after, 8)
		holds(t, after, 8, c.want, len(c.want))
	}
}

// P3.1 (D2): the greatest numbers, with the greatest count of others.
func TestPowerFull(t *testing.T) {
	full := strings.Repeat("x", api.SegmentSize)
	d := disk(map[int]string{0: "|" + full})
	for keep, n := range map[int]int{
		api.SegmentSize:      api.SegmentSize,
		-api.SegmentSize - 1: api.SegmentSize,
		api.SegmentSize + 2:  1,
		math.MaxInt:          math.MaxInt % (api.SegmentSize + 1),
		math.MinInt:          math.MaxInt % (api.SegmentSize + 1),
	} {
		holds(t, d.Power([]int{keep}), 0, full[:n], n)
	}
	for _, keep := range []int{0, -1, api.SegmentSize + 1, -api.SegmentSize - 2} {
		numbers(t, d.Power([]int{keep}))
	}
}

// P3.1 (D2): keep goes by rising numbers, and may be too short or too long.
func TestPowerOrder(t *testing.T) {
	d := disk(map[int]string{30: "c|33", 2: "a|11", 10: "|22", 40: "|44"})
	cases := []struct {
		keep []int
		want []string // of 2, 10, 30, 40; gone, if empty
	}{
		{nil, []string{"a", "", "c", ""}},
		{[]int{}, []string{"a", "", "c", ""}},
		{[]int{1}, []string{"a1", "", "c", ""}},
		{[]int{0, 1}, []string{"a", "2", "c", ""}},
		{[]int{0, 0, 2}, []string{"a", "", "c33", ""}},
		{[]int{2, 0, 1, -2}, []string{"a11", "", "c3", "4"}},
		{[]int{1, 2, 0, 2, 1, 1, math.MaxInt, math.MinInt}, []string{"a1", "22", "c", "44"}},
	}
	for _, c := range cases {
		after := d.Power(c.keep)
		var left []int
		for i, number := range []int{2, 10, 30, 40} {
			if c.want[i] == "" {
				lacks(t, after, number)
				continue
			}
			left = append(left, number)
			holds(t, after, number, c.want[i], len(c.want[i]))
		}
		numbers(t, after, left...)
	}
	numbers(t, d, 2, 10, 30, 40)
	holds(t, d, 2, "a11", 1)
	holds(t, d, 10, "22", 0)
}

// P3.1 (D2): a segment of which nothing is left is gone; without segments the root is left.
func TestPowerEmpty(t *testing.T) {
	d := New()
	d.Swap([]byte("root"))
	for _, keep := range [][]int{nil, {0}, {1, math.MinInt}} {
		after := d.Power(keep)
		numbers(t, after)
		if string(after.Root()) != "root" {
			t.Errorf("root %q", after.Root())
		}
	}
	d.Append(1, nil)
	d.Append(2, nil)
	d.Sync(2)
	d.Append(3, []byte("abc"))
	d.Cut(3, 0)
	numbers(t, d, 1, 2, 3)
	for _, keep := range []int{0, 5, -5, math.MaxInt, math.MinInt} {
		numbers(t, d.Power([]int{keep, keep, keep}))
	}
	numbers(t, d, 1, 2, 3)
}

// P3.1 (D2): the new disk and the old one are two, and both go on.
func TestPowerApart(t *testing.T) {
	d := disk(map[int]string{1: "ab|cd", 2: "e|"})
	d.Swap([]byte("root"))
	after := d.Power([]int{2})
	d.Append(1, []byte("OLD"))
	after.Append(1, []byte("new"))
	after.Append(3, nil)
	d.Cut(2, 0)
	d.Append(2, []byte("E"))
	d.Swap([]byte("ROOT"))
	holds(t, d, 1, "abcdOLD", 2)
	holds(t, d, 2, "E", 0)
	numbers(t, d, 1, 2)
	holds(t, after, 1, "abcdnew", 4)
	holds(t, after, 2, "e", 1)
	numbers(t, after, 1, 2, 3)
	if string(after.Root()) != "root" || string(d.Root()) != "ROOT" {
		t.Errorf("roots %q and %q", after.Root(), d.Root())
	}
	after.Remove(1)
	after.Swap(nil)
	holds(t, d, 1, "abcdOLD", 2)
	holds(t, after.Power(nil).Power(nil), 2, "e", 1)
	if string(d.Root()) != "ROOT" {
		t.Errorf("root %q", d.Root())
	}
}

// P3.2: whatever power leaves, the safe bytes are kept, with a beginning of the others behind them, and the root.
func TestSafeIsKept(t *testing.T) {
	r := rand.New(rand.NewSource(3))
	for range 400 {
		d, m := New(), new(model)
		for range r.Intn(40) {
			step(r, d, m)
		}
		keep := someKeep(r)
		after := d.Power(keep)
		if !bytes.Equal(after.Root(), d.Root()) {
			t.Fatalf("root %q, was %q", after.Root(), d.Root())
		}
		for _, number := range d.Segments() {
			was, _ := d.Read(number)
			is, e := after.Read(number)
			if e != api.OK && d.Safe(number) > 0 {
				t.Fatalf("keep %v: segment %d is gone, with %d bytes safe", keep, number, d.Safe(number))
			}
			if len(is) < d.Safe(number) || !bytes.HasPrefix(was, is) || after.Safe(number) != len(is) {
				t.Fatalf("keep %v: segment %d: %q (%d safe) was %q (%d safe)", keep, number, is, after.Safe(number), was, d.Safe(number))
			}
		}
		for _, number := range after.Segments() {
			if _, e := d.Read(number); e != api.OK {
				t.Fatalf("segment %d came from nowhere", number)
			}
		}
	}
}

// model says in another way what a disk holds: rows that are sorted, each with a mark a byte.
type model struct {
	rows []row
	root string
}

type row struct {
	number int
	text   string
	marks  string // 's' for a byte that is safe, '-' for one that is not
}

func (m *model) at(number int) int {
	return slices.IndexFunc(m.rows, func(x row) bool { return x.number == number })
}

func (m *model) append(number int, b []byte) api.Errno {
	i := m.at(number)
	if number < 0 || i < 0 && len(m.rows) == api.MaxSegments || len(b) > api.SegmentSize {
		return api.ErrSegment
	}
	if i < 0 {
		m.rows = append(m.rows, row{number: number})
		slices.SortFunc(m.rows, func(x, y row) int { return x.number - y.number })
		i = m.at(number)
	}
	if len(m.rows[i].text)+len(b) > api.SegmentSize {
		return api.ErrSegment
	}
	m.rows[i].text += string(b)
	m.rows[i].marks += strings.Repeat("-", len(b))
	return api.OK
}

func (m *model) cut(number, n int) api.Errno {
	i := m.at(number)
	if i < 0 || n < 0 || n > len(m.rows[i].text) {
		return api.ErrSegment
	}
	m.rows[i] = row{number, m.rows[i].text[:n], strings.Repeat("s", n)}
	return api.OK
}

func (m *model) sync(number int) api.Errno {
	i := m.at(number)
	if i < 0 {
		return api.ErrSegment
	}
	m.rows[i].marks = strings.Repeat("s", len(m.rows[i].text))
	return api.OK
}

func (m *model) remove(number int) api.Errno {
	i := m.at(number)
	if i < 0 {
		return api.ErrSegment
	}
	m.rows = slices.Delete(m.rows, i, i+1)
	return api.OK
}

func (m *model) swap(b []byte) api.Errno {
	if len(b) > api.SegmentSize {
		return api.ErrRoot
	}
	m.root = string(b)
	return api.OK
}

func (m *model) power(keep []int) *model {
	after := &model{root: m.root}
	for i, x := range m.rows {
		others := uint64(strings.Count(x.marks, "-"))
		var more uint64
		if i < len(keep) && keep[i] >= 0 {
			more = uint64(keep[i]) % (others + 1)
		} else if i < len(keep) {
			more = ^uint64(keep[i]) % (others + 1) // all bits turned: -(k + 1)
		}
		text := x.text[:strings.Count(x.marks, "s")+int(more)]
		if text != "" {
			after.rows = append(after.rows, row{x.number, text, strings.Repeat("s", len(text))})
		}
	}
	return after
}

// step does one thing of chance to both, and tells both errors.
func step(r *rand.Rand, d *Disk, m *model) (got, wanted api.Errno) {
	number := r.Intn(8) - 1
	switch r.Intn(10) {
	case 0, 1, 2, 3:
		b := make([]byte, someSize(r))
		r.Read(b)
		return d.Append(number, b), m.append(number, b)
	case 4, 5:
		return d.Sync(number), m.sync(number)
	case 6:
		n := someSize(r) - 2
		return d.Cut(number, n), m.cut(number, n)
	case 7:
		return d.Remove(number), m.remove(number)
	default:
		b := make([]byte, someSize(r))
		r.Read(b)
		return d.Swap(b), m.swap(b)
	}
}

func someSize(r *rand.Rand) int {
	sizes := []int{0, 1, 2, r.Intn(20), r.Intn(300), api.SegmentSize - 1, api.SegmentSize, api.SegmentSize + 1}
	return sizes[r.Intn(len(sizes))]
}

func someKeep(r *rand.Rand) []int {
	var keep []int
	for range r.Intn(10) {
		some := []int{0, 1, -1, -2, r.Intn(2000), -r.Intn(2000), int(r.Uint64()), math.MaxInt, math.MinInt}
		keep = append(keep, some[r.Intn(len(some))])
	}
	return keep
}

// P3.1: scripts of chance, held against the model at every step.
func TestScripts(t *testing.T) {
	r := rand.New(rand.NewSource(1))
	for script := range 150 {
		d, m := New(), new(model)
		for i := range 100 {
			got, wanted := step(r, d, m)
			if got != wanted {
				t.Fatalf("script %d, step %d: error %d, want %d", script, i, got, wanted)
			}
			if r.Intn(8) == 0 {
				keep := someKeep(r)
				after, then := d.Power(keep), m.power(keep)
				same(t, d, m)
				d, m = after, then
			}
			same(t, d, m)
		}
	}
}

// same holds a whole disk against the model.
func same(t *testing.T, d *Disk, m *model) {
	t.Helper()
	var all []int
	for _, x := range m.rows {
		all = append(all, x.number)
		holds(t, d, x.number, x.text, strings.Count(x.marks, "s"))
	}
	numbers(t, d, all...)
	if string(d.Root()) != m.root {
		t.Errorf("root %q, want %q", d.Root(), m.root)
	}
	if t.Failed() {
		t.FailNow()
	}
}
