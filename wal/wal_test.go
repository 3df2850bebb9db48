package wal

import (
	"math"
	"slices"
	"strings"
	"testing"

	"belfry/api"
	"belfry/disk"
)

// P4.1: without a disk there is no log.
func TestNilDisk(t *testing.T) {
	if l, e := Open(nil); l != nil || e != api.ErrArg {
		t.Errorf("Open(nil): %v, error %d", l, e)
	}
}

// P4.1: a nil log answers ErrArg, ahead of all else, and nothing.
func TestNilLog(t *testing.T) {
	var l *Log
	for _, b := range [][]byte{nil, []byte("a"), make([]byte, api.MaxRecord+1)} {
		if n, e := l.Append(b); n != 0 || e != api.ErrArg {
			t.Errorf("Append: %d, error %d", n, e)
		}
	}
	wantError(t, "Force", l.Force(), api.ErrArg)
	for _, n := range []int{math.MinInt, -1, 0, 1, math.MaxInt} {
		wantError(t, "Truncate", l.Truncate(n), api.ErrArg)
		if b, e := l.Read(n); len(b) != 0 || e != api.ErrArg {
			t.Errorf("Read: %q, error %d", b, e)
		}
	}
	if l.First() != 0 || l.Next() != 0 || l.Forced() != 0 || l.Segments() != 0 {
		t.Error("a nil log has something")
	}
}

// P4.1: a disk with nothing on it has an empty log, and stays so.
func TestNothing(t *testing.T) {
	d := disk.New()
	l := open(t, d)
	wantLog(t, "opened", l, 0, nil, 0, 0)
	wantError(t, "Force", l.Force(), api.OK)
	wantLog(t, "forced", l, 0, nil, 0, 0)
	wantDisk(t, "forced", d, "", nil)
	for _, n := range []int{math.MinInt, -1, 1, math.MaxInt} {
		wantError(t, "Truncate", l.Truncate(n), api.ErrArg)
	}
	wantDisk(t, "no truncation", d, "", nil)
	wantError(t, "Truncate at 0", l.Truncate(0), api.OK)
	wantLog(t, "truncated", l, 0, nil, 0, 0)
	wantDisk(t, "truncated", d, rootText(0, 0), nil)
	put(t, l, "a")
	wantLog(t, "with a record", l, 0, []string{"a"}, 0, 1)
}

// P4.1 (words): a frame, byte by byte, and records one behind the other.
func TestFramesOnDisk(t *testing.T) {
	d := disk.New()
	l := open(t, d)
	put(t, l, "123456789")
	const text = "\x00\x09\xba\x6f\xb7\xae123456789"
	wantDisk(t, "one", d, "", map[int]string{0: bar + text})
	put(t, l, "a", "\x00\x00")
	wantDisk(t, "three", d, "", map[int]string{0: bar + text + framesText("a", "\x00\x00")})
	wantLog(t, "three", l, 0, []string{"123456789", "a", "\x00\x00"}, 0, 1)
	wantError(t, "Force", l.Force(), api.OK)
	put(t, l, "b")
	wantDisk(t, "four", d, "", map[int]string{0: text + framesText("a", "\x00\x00") + bar + frameText("b")})
	wantLog(t, "four", l, 0, []string{"123456789", "a", "\x00\x00", "b"}, 3, 1)
}

// P4.1: a record of each size that may be, and none of the others.
func TestRecordSizes(t *testing.T) {
	d := disk.New()
	l := open(t, d)
	wrong := [][]byte{nil, {}, make([]byte, api.MaxRecord+1), make([]byte, api.SegmentSize), make([]byte, 1<<16+1)}
	for _, b := range wrong {
		if n, e := l.Append(b); n != 0 || e != api.ErrArg {
			t.Errorf("Append of %d bytes: %d, error %d", len(b), n, e)
		}
		wantLog(t, "nothing", l, 0, nil, 0, 0)
		wantDisk(t, "nothing", d, "", nil)
	}
	var records []string
	for _, n := range []int{1, api.MaxRecord, 2, 255, 256, 257, api.MaxRecord - 1, 500} {
		records = append(records, long("record", n))
		put(t, l, records[len(records)-1])
		before := whole(d)
		for _, b := range wrong {
			if n, e := l.Append(b); n != 0 || e != api.ErrArg {
				t.Errorf("Append of %d bytes: %d, error %d", len(b), n, e)
			}
		}
		if whole(d) != before {
			t.Error("a record that may not be has changed the disk")
		}
	}
	wantLog(t, "all sizes", l, 0, records, 7, 4)
	wantLog(t, "all sizes, opened", open(t, d), 0, records, 8, 4)
}

// P4.1: a frame that just fits stands in the last segment; one that is a byte longer begins the next one.
func TestJustFits(t *testing.T) {
	first := long("first", 500)
	for over := -2; over <= 2; over++ {
		second := long("second", api.SegmentSize-2*headSize-len(first)+over)
		d := disk.New()
		l := open(t, d)
		put(t, l, first, second)
		if over <= 0 {
			wantLog(t, "fits", l, 0, []string{first, second}, 0, 1)
			wantDisk(t, "fits", d, "", map[int]string{0: bar + framesText(first, second)})
		} else {
			wantLog(t, "does not fit", l, 0, []string{first, second}, 1, 2)
			wantDisk(t, "does not fit", d, "", map[int]string{0: frameText(first), 1: bar + frameText(second)})
		}
		put(t, l, "third")
		wantLog(t, "one more", open(t, d), 0, []string{first, second, "third"}, 3, 2)
	}
}

// P4.1: a segment that is left is synced, and its records forced; Force syncs the last one.
func TestForced(t *testing.T) {
	d := disk.New()
	l := open(t, d)
	big := long("big", api.MaxRecord)
	put(t, l, "a", big)
	wantLog(t, "one segment", l, 0, []string{"a", big}, 0, 1)
	put(t, l, big, "c")
	wantLog(t, "two segments", l, 0, []string{"a", big, big, "c"}, 2, 2)
	wantDisk(t, "two segments", d, "", map[int]string{0: framesText("a", big), 1: bar + framesText(big, "c")})
	wantError(t, "Force", l.Force(), api.OK)
	wantError(t, "Force again", l.Force(), api.OK)
	wantLog(t, "forced", l, 0, []string{"a", big, big, "c"}, 4, 2)
	wantDisk(t, "forced", d, "", map[int]string{0: framesText("a", big), 1: framesText(big, "c")})
	put(t, l, "not in the second", "d")
	wantLog(t, "three segments", l, 0, []string{"a", big, big, "c", "not in the second", "d"}, 4, 3)
	wantDisk(t, "three segments", d, "", map[int]string{
		0: framesText("a", big), 1: framesText(big, "c"), 2: bar + framesText("not in the second", "d"),
	})
}

// fill makes a log of so many segments, each of one record.
func fill(t *testing.T, d *disk.Disk, n int) (*Log, []string) {
	t.Helper()
	l := open(t, d)
	var records []string
	for range n {
		records = append(records, long("fill", api.MaxRecord))
	}
	put(t, l, records...)
	return l, records
}

// P4.1: as many segments as may be, and not one more.
func TestLogFull(t *testing.T) {
	d := disk.New()
	l, records := fill(t, d, api.MaxLog)
	wantLog(t, "full", l, 0, records, api.MaxLog-1, api.MaxLog)
	before := whole(d)
	for _, n := range []int{13, 14, api.MaxRecord} {
		if number, e := l.Append(make([]byte, n)); number != 0 || e != api.ErrLogFull {
			t.Errorf("one more, of %d bytes: %d, error %d", n, number, e)
		}
	}
	if n, e := l.Append(nil); n != 0 || e != api.ErrArg {
		t.Errorf("nothing, on a full log: %d, error %d", n, e)
	}
	wantLog(t, "full still", l, 0, records, api.MaxLog-1, api.MaxLog)
	if whole(d) != before {
		t.Error("a full log has changed the disk")
	}
	put(t, l, "in the last")
	records = append(records, "in the last")
	wantError(t, "Truncate", l.Truncate(2), api.OK)
	wantLog(t, "truncated", l, 2, records[2:], api.MaxLog-1, api.MaxLog-2)
	put(t, l, records[0], records[1])
	if n, e := l.Append([]byte(records[0])); n != 0 || e != api.ErrLogFull {
		t.Errorf("full again: %d, error %d", n, e)
	}
	records = append(records, records[0], records[1])
	wantLog(t, "full again", l, 2, records[2:], api.MaxLog+2, api.MaxLog)
	wantLog(t, "full again, opened", open(t, d), 2, records[2:], api.MaxLog+3, api.MaxLog)
}

// P4.1: a log with more segments than it may have is told whole, but gets no more of them.
func TestMoreThanFull(t *testing.T) {
	for _, n := range []int{api.MaxLog, api.MaxLog + 1, api.MaxSegments} {
		segments := make(map[int]string)
		for i := range n {
			segments[i] = frameText(long("theirs", 900))
		}
		d := newDisk("", segments)
		l := open(t, d)
		records := slices.Repeat([]string{long("theirs", 900)}, n)
		wantLog(t, "opened", l, 0, records, n, n)
		wantDisk(t, "opened", d, "", segments)
		if number, e := l.Append(make([]byte, 200)); number != 0 || e != api.ErrLogFull {
			t.Errorf("one more of %d: %d, error %d", n, number, e)
		}
		put(t, l, "in the last")
		wantLog(t, "one record more", l, 0, append(records, "in the last"), n, n)
	}
}

// P4.1: what the disk refuses is no record, and changes nothing.
func TestDiskRefuses(t *testing.T) {
	for _, ahead := range []int{0, 1, 3} {
		d := disk.New()
		l, records := fill(t, d, ahead)
		for i := range api.MaxSegments - ahead {
			wantError(t, "another's segment", d.Append(1000+i, []byte("theirs")), api.OK)
		}
		before := whole(d)
		for _, n := range []int{20, api.MaxRecord} {
			if number, e := l.Append(make([]byte, n)); number != 0 || e != api.ErrSegment {
				t.Errorf("behind %d segments: %d, error %d", ahead, number, e)
			}
		}
		wantLog(t, "refused", l, 0, records, max(0, ahead-1), ahead)
		if whole(d) != before {
			t.Error("what was refused has changed the disk")
		}
		d.Remove(1000)
		put(t, l, long("room", api.MaxRecord))
		wantLog(t, "room again", l, 0, append(records, long("room", api.MaxRecord)), ahead, ahead+1)
	}
}

// P4.1: a next segment that another one filled is the disk's to refuse, too, and changes nothing; an empty one is not in the way.
func TestNextIsAnothers(t *testing.T) {
	d := disk.New()
	l, records := fill(t, d, 1)
	d.Append(1, make([]byte, 20))
	before := whole(d)
	if n, e := l.Append([]byte(records[0])); n != 0 || e != api.ErrSegment {
		t.Errorf("another's is in the way: %d, error %d", n, e)
	}
	wantLog(t, "refused", l, 0, records, 0, 1)
	if whole(d) != before {
		t.Error("what was refused has changed the disk")
	}
	d.Cut(1, 0)
	put(t, l, records[0])
	wantLog(t, "not in the way", l, 0, append(records, records[0]), 1, 2)
}

// P4.1: a full log says so ahead of a full disk; a full last segment is the disk's to tell.
func TestWhichError(t *testing.T) {
	d := disk.New()
	l, records := fill(t, d, api.MaxLog)
	for i := range api.MaxSegments - api.MaxLog {
		d.Append(1000+i, nil)
	}
	if n, e := l.Append([]byte(records[0])); n != 0 || e != api.ErrLogFull {
		t.Errorf("both are full: %d, error %d", n, e)
	}
	d.Append(api.MaxLog-1, make([]byte, api.SegmentSize-headSize-api.MaxRecord))
	before := whole(d)
	if n, e := l.Append([]byte("a")); n != 0 || e != api.ErrSegment {
		t.Errorf("the last one was filled: %d, error %d", n, e)
	}
	if whole(d) != before || l.Next() != api.MaxLog || l.Forced() != api.MaxLog-1 {
		t.Error("an error has changed something")
	}
}

// P1: whatever others do to the disk, no call panics, and what is not there is not told.
func TestDiskTakenAway(t *testing.T) {
	d := disk.New()
	l, records := fill(t, d, 3)
	d.Cut(0, 1005)
	d.Remove(1)
	d.Cut(2, 0)
	d.Append(2, []byte(frameText(records[2])[:1005]+"?"))
	for i := range 3 {
		if b, e := l.Read(i); e != api.ErrRecord || len(b) != 0 {
			t.Errorf("record %d: %.20q, error %d", i, b, e)
		}
	}
	wantError(t, "Force", l.Force(), api.OK)
	wantError(t, "Truncate", l.Truncate(2), api.OK)
	wantDisk(t, "truncated", d, rootText(2, 2), map[int]string{2: frameText(records[2])[:1005] + "?"})
	d.Remove(2)
	wantError(t, "Force of what is gone", l.Force(), api.ErrSegment)
	if n, e := l.Append([]byte(records[0])); n != 0 || e != api.ErrSegment {
		t.Errorf("Append behind what is gone: %d, error %d", n, e)
	}
	wantDisk(t, "gone", d, rootText(2, 2), nil)
}

// P4.1: Read below First, at Next, and far from both.
func TestReadEdges(t *testing.T) {
	l := open(t, newDisk(rootText(7, 30), map[int]string{7: framesText("a", "b"), 8: framesText("c")}))
	wantLog(t, "opened", l, 30, []string{"a", "b", "c"}, 33, 2)
	for _, n := range []int{math.MinInt, -1, 0, 1, 28, 29, 33, 34, math.MaxInt} {
		if b, e := l.Read(n); e != api.ErrRecord || len(b) != 0 {
			t.Errorf("Read(%d): %q, error %d", n, b, e)
		}
	}
	put(t, l, "d")
	wantLog(t, "one more", l, 30, []string{"a", "b", "c", "d"}, 33, 2)
}

// P4.1 (words): which roots tell numbers, and which count as 0 and 0.
func TestRoots(t *testing.T) {
	const most = api.MaxNumber
	right := [][2]int{{0, 0}, {0, 1}, {1, 0}, {3, 700}, {255, 256}, {0, most}, {most, 0}, {most, most}, {most - 1, most - 1}}
	for _, n := range right {
		root := rootText(n[0], n[1])
		segments := map[int]string{n[0]: framesText("a", "b"), n[0] + 1: framesText("c")}
		d := newDisk(root, segments)
		l := open(t, d)
		wantLog(t, "right root", l, n[1], []string{"a", "b", "c"}, n[1]+3, 2)
		wantDisk(t, "right root", d, root, segments)
		put(t, l, "d")
		wantLog(t, "right root, one more", l, n[1], []string{"a", "b", "c", "d"}, n[1]+3, 2)

		d = newDisk(root, nil)
		l = open(t, d)
		wantLog(t, "right root alone", l, n[1], nil, n[1], 0)
		put(t, l, "a")
		wantDisk(t, "right root, a record", d, root, map[int]string{n[0]: bar + frameText("a")})
	}
	wrong := map[string]string{
		"no list":                "\x01\x00\x01",
		"a byte":                 "\x05",
		"one field":              "\x01\x00\x01\x05",
		"the other field":        "\x02\x00\x01\x05",
		"three fields":           rootText(5, 9) + "\x03\x00\x00",
		"a byte behind":          rootText(5, 9) + "\x00",
		"cut off":                rootText(5, 9)[:7],
		"the other order":        "\x02\x00\x01\x09\x01\x00\x01\x05",
		"tag 1 twice":            "\x01\x00\x01\x05\x01\x00\x01\x09",
		"tag 2 twice":            "\x02\x00\x01\x05\x02\x00\x01\x09",
		"other tags":             "\x03\x00\x01\x05\x04\x00\x01\x09",
		"a nought ahead":         "\x01\x00\x02\x00\x05\x02\x00\x01\x09",
		"a nought ahead, second": "\x01\x00\x01\x05\x02\x00\x02\x00\x09",
		"noughts":                "\x01\x00\x01\x00\x02\x00\x01\x00",
		"nine figures":           "\x01\x00\x09\x01\x02\x03\x04\x05\x06\x07\x08\x09\x02\x00\x01\x09",
		"segment too great":      rootText(most+1, 9),
		"record too great":       rootText(5, most+1),
		"both too great":         rootText(most+1, most+1),
		"greatest int":           rootText(math.MaxInt, 9),
		"greatest int, second":   rootText(5, math.MaxInt),
		"above all ints":         "\x01\x00\x08\xff\xff\xff\xff\xff\xff\xff\xff\x02\x00\x01\x09",
		"above all ints, second": "\x01\x00\x01\x05\x02\x00\x08\xff\xff\xff\xff\xff\xff\xff\xff",
		"text":                   strings.Repeat("r", api.SegmentSize),
		"too many fields":        strings.Repeat("\x01\x00\x00", 201),
	}
	for name, root := range wrong {
		d := newDisk(root, map[int]string{0: framesText("zero"), 5: framesText("five")})
		wantLog(t, name, open(t, d), 0, []string{"zero"}, 1, 1)
		wantDisk(t, name, d, root, map[int]string{0: framesText("zero")})
	}
}

// P4.1: Truncate at First, between, at Forced, and beyond.
func TestTruncate(t *testing.T) {
	big := long("big", api.MaxRecord)
	records := []string{"a", "b", "c", big, "d", "e", big, "f"} // two segments more begin with records 3 and 6
	for _, c := range []struct{ number, first, segments int }{
		{10, 10, 3}, {11, 10, 3}, {12, 10, 3}, {13, 13, 2}, {14, 13, 2}, {15, 13, 2}, {16, 16, 1}, {17, 16, 1}, {18, 16, 1},
	} {
		d := newDisk(rootText(4, 10), nil)
		l := open(t, d)
		put(t, l, records...)
		wantLog(t, "not forced", l, 10, records, 16, 3)
		for _, n := range []int{math.MinInt, 0, 9, 17, 18, 19, math.MaxInt} {
			before := whole(d)
			wantError(t, "Truncate", l.Truncate(n), api.ErrArg)
			if whole(d) != before {
				t.Errorf("Truncate(%d) has changed the disk", n)
			}
		}
		wantError(t, "Force", l.Force(), api.OK)
		wantError(t, "Truncate below", l.Truncate(9), api.ErrArg)
		wantError(t, "Truncate beyond", l.Truncate(19), api.ErrArg)
		wantError(t, "Truncate", l.Truncate(c.number), api.OK)
		left := records[c.first-10:]
		wantLog(t, "truncated", l, c.first, left, 18, c.segments)
		segments := map[int]string{4: framesText("a", "b", "c"), 5: framesText(big, "d", "e"), 6: framesText(big, "f")}
		for i := range 3 - c.segments {
			delete(segments, 4+i)
		}
		wantDisk(t, "truncated", d, rootText(7-c.segments, c.first), segments)
		wantError(t, "Truncate below First", l.Truncate(c.first-1), api.ErrArg)
		wantError(t, "Truncate again", l.Truncate(c.first), api.OK)
		wantLog(t, "truncated, opened", open(t, d), c.first, left, 18, c.segments)
		put(t, l, "g", big)
		wantLog(t, "goes on", l, c.first, append(slices.Clone(left), "g", big), 19, c.segments+1)
		wantError(t, "Truncate to the last one", l.Truncate(19), api.OK)
		wantLog(t, "the last one", l, 19, []string{big}, 19, 1)
	}
}

// P4.1: a segment whose first record is not forced may be the first one, when all ahead of it is not wanted.
func TestTruncateAtForced(t *testing.T) {
	d := disk.New()
	l := open(t, d)
	big := long("big", api.MaxRecord)
	put(t, l, big, big)
	wantError(t, "Truncate", l.Truncate(1), api.OK)
	wantLog(t, "truncated", l, 1, []string{big}, 1, 1)
	wantDisk(t, "truncated", d, rootText(1, 1), map[int]string{1: bar + frameText(big)})
	wantLog(t, "nothing left", open(t, d.Power(nil)), 1, nil, 1, 0)
	cut := d.Power([]int{1005})
	x := open(t, cut)
	wantLog(t, "a part left", x, 1, nil, 1, 1)
	wantDisk(t, "a part left", cut, rootText(1, 1), map[int]string{1: ""})
	wantError(t, "Truncate of nothing", x.Truncate(1), api.OK)
	wantLog(t, "truncated, a part left", x, 1, nil, 1, 1)
	put(t, x, "new")
	wantLog(t, "new", x, 1, []string{"new"}, 1, 1)
	wantDisk(t, "new", cut, rootText(1, 1), map[int]string{1: bar + frameText("new")})
}

// P4.2: no truncation writes a root that would count as 0 and 0, as all would be lost then.
func TestTruncateAtGreatestNumbers(t *testing.T) {
	const most = api.MaxNumber
	big := long("big", api.MaxRecord)
	for _, c := range []struct{ segment, record, gone int }{
		{most, most, 0}, {most, 5, 0}, {5, most, 0}, {most - 1, 5, 1}, {5, most - 1, 1}, {most - 1, most - 2, 1}, {most - 3, most - 3, 3},
	} {
		d := newDisk(rootText(c.segment, c.record), nil)
		l := open(t, d)
		records := []string{big, big, big, big}
		put(t, l, records...)
		wantError(t, "Force", l.Force(), api.OK)
		wantError(t, "Truncate", l.Truncate(c.record+4), api.OK)
		wantLog(t, "truncated", l, c.record+c.gone, records[c.gone:], c.record+4, 4-c.gone)
		wantLog(t, "truncated, opened", open(t, d.Power(nil)), c.record+c.gone, records[c.gone:], c.record+4, 4-c.gone)
	}
}

// Rule 4: records that are handed in or out may be changed afterwards.
func TestMemory(t *testing.T) {
	d := disk.New()
	l := open(t, d)
	memory := []byte("abcdef")
	put(t, l, "x")
	if n, e := l.Append(memory[1:3]); n != 1 || e != api.OK {
		t.Fatalf("Append: %d, error %d", n, e)
	}
	if string(memory) != "abcdef" {
		t.Errorf("handed in, now %q", memory)
	}
	clear(memory)
	put(t, l, "y")
	want := []string{"x", "bc", "y"}
	wantLog(t, "handed in", l, 0, want, 0, 1)
	for number := range 3 {
		early, _ := l.Read(number)
		other, _ := l.Read(number)
		clear(early[:cap(early)])
		if string(other) != want[number] {
			t.Errorf("two answers share memory: %q", other)
		}
	}
	wantLog(t, "handed out", l, 0, want, 0, 1)
	kept, _ := l.Read(1)
	wantError(t, "Truncate", open(t, d).Truncate(3), api.OK)
	put(t, l, long("big", api.MaxRecord))
	if string(kept) != "bc" {
		t.Errorf("handed out, now %q", kept)
	}
}

// P2: two disks have two logs.
func TestLogsApart(t *testing.T) {
	a, b := disk.New(), disk.New()
	x, y := open(t, a), open(t, b)
	big := long("x", api.MaxRecord)
	put(t, x, "x", big, big)
	put(t, y, "y")
	wantError(t, "Truncate", x.Truncate(2), api.OK)
	wantLog(t, "x", x, 2, []string{big}, 2, 1)
	wantLog(t, "y", y, 0, []string{"y"}, 0, 1)
}

// The iterator may be gone through twice, and left early; it tells whole frames, right or not.
func TestFramesAgainAndLeftEarly(t *testing.T) {
	b := []byte(framesText("a", "bb") + "\x00\x01????c" + framesText("dd") + "\x00\x05half")
	walk := frames(b)
	for range 2 {
		var told []string
		for f := range walk {
			told = append(told, string(f.record()))
		}
		if !slices.Equal(told, []string{"a", "bb", "c", "dd"}) {
			t.Errorf("%q", told)
		}
	}
	for f := range walk {
		if string(f) != frameText("a") {
			t.Errorf("%q first", f)
		}
		break
	}
	if count, size := measure(b); count != 2 || size != len(framesText("a", "bb")) {
		t.Errorf("%d right frames, %d bytes", count, size)
	}
}
