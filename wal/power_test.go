package wal

import (
	"math"
	"math/rand"
	"slices"
	"testing"

	"belfry/api"
	"belfry/disk"
)

// model says in another way what a log holds, and what stands on its disk.
type model struct {
	root     string
	first    int        // the first segment's number
	start    int        // the first record's
	segments [][]string // the records of each
	forced   int
	cut      int // numbers below were truncated
}

func (m *model) records() []string {
	return slices.Concat(m.segments...)
}

func (m *model) next() int {
	return m.start + len(m.records())
}

func (m *model) append(record string) (int, api.Errno) {
	if len(record) < 1 || len(record) > 1000 {
		return 0, api.ErrArg
	}
	n := len(m.segments)
	number := m.next()
	if n > 0 && len(framesText(m.segments[n-1]...))+len(frameText(record)) <= 1024 {
		m.segments[n-1] = append(m.segments[n-1], record)
		return number, api.OK
	}
	if n == 100 {
		return 0, api.ErrLogFull
	}
	m.segments = append(m.segments, []string{record})
	m.forced = number
	return number, api.OK
}

func (m *model) truncate(number int) api.Errno {
	if number < m.start || number > m.forced {
		return api.ErrArg
	}
	m.cut = number
	for len(m.segments) > 1 && m.start+len(m.segments[0]) <= number {
		m.start += len(m.segments[0])
		m.first++
		m.segments = m.segments[1:]
	}
	m.root = rootText(m.first, m.start)
	return api.OK
}

func (m *model) read(number int) (string, api.Errno) {
	if number < m.start || number >= m.next() {
		return "", api.ErrRecord
	}
	return m.records()[number-m.start], api.OK
}

// disk is what stands there: all but the last segment is safe, of that one the forced records.
func (m *model) disk() map[int]string {
	all := make(map[int]string)
	number := m.start
	for i, records := range m.segments {
		safe := min(max(0, m.forced-number), len(records))
		all[m.first+i] = framesText(records[:safe]...) + bar + framesText(records[safe:]...)
		number += len(records)
	}
	return all
}

// lose is what is opened behind a loss of power that leaves so many bytes of those that are not forced.
func (m *model) lose(bytes int) *model {
	after := &model{root: m.root, first: m.first, start: m.start, cut: m.cut}
	number := m.start
	for _, records := range m.segments {
		safe := framesText(records[:min(max(0, m.forced-number), len(records))]...)
		rest := framesText(records...)[len(safe):]
		text := safe + rest[:min(bytes, len(rest))]
		left, _ := split(text)
		// A first segment of which a part of a frame is left stays, without bytes.
		if len(left) > 0 || text != "" && len(after.segments) == 0 {
			after.segments = append(after.segments, left)
		}
		number += len(records)
	}
	after.forced = after.next()
	return after
}

// openAgain removes a first segment that was left without bytes.
func (m *model) openAgain() {
	if len(m.records()) == 0 {
		m.segments = nil
	}
}

// notSafe is how many bytes of the disk's last segment are not safe; all others are.
func notSafe(t *testing.T, d *disk.Disk) int {
	t.Helper()
	n := 0
	all := d.Segments()
	for i, number := range all {
		b, _ := d.Read(number)
		n = len(b) - d.Safe(number)
		if i < len(all)-1 && n != 0 {
			t.Fatalf("segment %d, not the last one: %d bytes not safe", number, n)
		}
	}
	return n
}

// keepLast keeps so many bytes of the last segment's that are not safe.
func keepLast(d *disk.Disk, n int) []int {
	keep := make([]int, len(d.Segments()))
	if len(keep) > 0 {
		keep[len(keep)-1] = n
	}
	return keep
}

// checkBeginning holds P4.2 itself: what was opened is a beginning of what was.
func checkBeginning(t *testing.T, l *Log, was *model) {
	t.Helper()
	if l.First() > was.cut {
		t.Errorf("first %d, above %d", l.First(), was.cut)
	}
	if l.Next() < was.forced || l.Next() > was.next() || l.Forced() != l.Next() {
		t.Errorf("next %d, forced %d; were forced %d, next %d", l.Next(), l.Forced(), was.forced, was.next())
	}
	for number := l.First(); number < l.Next(); number++ {
		b, e := l.Read(number)
		if record, there := was.read(number); e != api.OK || there != api.OK || string(b) != record {
			t.Errorf("record %d: %.20q, error %d; was %.20q, error %d", number, b, e, record, there)
		}
	}
}

// checkPower loses power with so many bytes left, and opens the log, once more, and once more.
func checkPower(t *testing.T, d *disk.Disk, m *model, n int) {
	t.Helper()
	before := whole(d)
	after := d.Power(keepLast(d, n))
	left := m.lose(n)
	for range 3 {
		l := open(t, after)
		checkBeginning(t, l, m)
		wantLog(t, "opened", l, left.start, left.records(), left.next(), len(left.segments))
		wantDisk(t, "opened", after, left.root, left.disk())
		left.openAgain()
	}
	if whole(d) != before {
		t.Error("what lost power has changed")
	}
	last := after.Power([]int{math.MaxInt})
	l := open(t, last)
	checkBeginning(t, l, m)
	put(t, l, "new")
	wantError(t, "Force", l.Force(), api.OK)
	wantLog(t, "goes on", open(t, last.Power(nil)), left.start, append(left.records(), "new"), left.next()+1, l.Segments())
	if t.Failed() {
		t.FailNow()
	}
}

// P4.2: a script with a loss of power behind each step, with each number of bytes left.
func TestPowerAtEveryMoment(t *testing.T) {
	big := long("big", api.MaxRecord)
	script := []any{
		"", "a", "bb", "force", long("c", 30), "force", "force", long("d", 200), "", long("e", 700), "f",
		big, "g", 5, 0, 6, 7, "h", "force", 8, 9, big, "i", long("j", 20), 10, long("k", 900), "force", 12, "l", big, big, 15, "m", big,
	}
	d := disk.New()
	l, m := open(t, d), &model{}
	for _, step := range script {
		switch x := step.(type) {
		case int:
			wantError(t, "Truncate", l.Truncate(x), m.truncate(x))
		case string:
			if x == "force" {
				wantError(t, "Force", l.Force(), api.OK)
				m.forced = m.next()
				break
			}
			number, e := l.Append([]byte(x))
			if want, error := m.append(x); number != want || e != error {
				t.Fatalf("Append: %d, error %d, want %d, %d", number, e, want, error)
			}
		}
		wantLog(t, "step", l, m.start, m.records(), m.forced, len(m.segments))
		wantDisk(t, "step", d, m.root, m.disk())
		for n := range notSafe(t, d) + 1 {
			checkPower(t, d, m, n)
		}
	}
	if l.First() == 0 || l.Segments() < 2 || l.Next() < 15 {
		t.Errorf("the script is too short: %d to %d in %d segments", l.First(), l.Next(), l.Segments())
	}
}

// P4.2: power goes within a Truncate: the root is swapped, and some of the segments ahead are gone.
func TestPowerWithinTruncate(t *testing.T) {
	big := long("big", api.MaxRecord)
	for removed := range 4 {
		d := disk.New()
		l := open(t, d)
		put(t, l, big, big, big, big, "a")
		wantError(t, "Force", l.Force(), api.OK)
		d.Swap([]byte(rootText(3, 3)))
		for i := range removed {
			d.Remove(i)
		}
		after := d.Power(nil)
		for range 2 {
			wantLog(t, "opened", open(t, after), 3, []string{big, "a"}, 5, 1)
			wantDisk(t, "opened", after, rootText(3, 3), map[int]string{3: framesText(big, "a")})
		}
	}
}

// P4.2: power goes within an Open, that removes others ahead of cutting.
func TestPowerWithinOpen(t *testing.T) {
	for removed := range 4 {
		d := newDisk("", map[int]string{0: framesText("a"), 1: framesText("b") + "half", 2: framesText("no"), 3: framesText("no"), 9: "?"})
		for _, number := range []int{2, 3, 9}[:removed] {
			d.Remove(number)
		}
		after := d.Power(nil)
		wantLog(t, "opened", open(t, after), 0, []string{"a", "b"}, 2, 2)
		wantDisk(t, "opened", after, "", map[int]string{0: framesText("a"), 1: framesText("b")})
	}
}

// P4.2: a record of which power left a part does not come back when another one takes its number.
func TestLostRecordStaysLost(t *testing.T) {
	d := disk.New()
	l := open(t, d)
	put(t, l, "kept")
	wantError(t, "Force", l.Force(), api.OK)
	lost := long("lost", 50)
	put(t, l, lost)
	for n := range len(frameText(lost)) {
		after := d.Power([]int{n})
		x := open(t, after)
		put(t, x, "other", "third")
		wantLog(t, "goes on", x, 0, []string{"kept", "other", "third"}, 1, 1)
		other := len(frameText("other"))
		wantLog(t, "none", open(t, after.Power([]int{other - 1})), 0, []string{"kept"}, 1, 1)
		wantLog(t, "one", open(t, after.Power([]int{other})), 0, []string{"kept", "other"}, 2, 1)
		wantLog(t, "both", open(t, after.Power([]int{other + len(frameText("third"))})), 0, []string{"kept", "other", "third"}, 3, 1)
	}
}

// someRecord is of a size of chance, edges among them.
func someRecord(r *rand.Rand) string {
	sizes := []int{0, 1, 2, r.Intn(20), r.Intn(20), r.Intn(300), r.Intn(1000), 999, 1000, 1001}
	return long(string(rune('a'+r.Intn(26))), sizes[r.Intn(len(sizes))])
}

// someStep does one thing of chance to both.
func someStep(t *testing.T, r *rand.Rand, l *Log, m *model) {
	t.Helper()
	switch r.Intn(10) {
	case 0, 1:
		wantError(t, "Force", l.Force(), api.OK)
		m.forced = m.next()
	case 2:
		number := m.start - 1 + r.Intn(m.next()-m.start+4)
		wantError(t, "Truncate", l.Truncate(number), m.truncate(number))
	case 3:
		number := m.start - 1 + r.Intn(m.next()-m.start+4)
		b, e := l.Read(number)
		if record, want := m.read(number); string(b) != record || e != want {
			t.Errorf("Read(%d): %.20q, error %d, want %.20q, %d", number, b, e, record, want)
		}
	default:
		record := someRecord(r)
		number, e := l.Append([]byte(record))
		if n, want := m.append(record); number != n || e != want {
			t.Errorf("Append of %d bytes: %d, error %d, want %d, %d", len(record), number, e, n, want)
		}
	}
}

// P4.1 and P4.2: scripts of chance, with losses of power, held against the model at every step.
func TestScripts(t *testing.T) {
	r := rand.New(rand.NewSource(7))
	for range 60 {
		d := disk.New()
		l, m := open(t, d), &model{}
		for range 60 {
			someStep(t, r, l, m)
			wantLog(t, "step", l, m.start, m.records(), m.forced, len(m.segments))
			wantDisk(t, "step", d, m.root, m.disk())
			n := r.Intn(notSafe(t, d) + 1)
			checkPower(t, d, m, n)
			if r.Intn(8) == 0 {
				d, m = d.Power(keepLast(d, n)), m.lose(n)
				l = open(t, d)
			}
			if t.Failed() {
				t.FailNow()
			}
		}
	}
}
