package wal

import (
	"fmt"
	"hash/crc32"
	"slices"
	"strings"
	"testing"

	"belfry/api"
	"belfry/disk"
)

// frameText is a record's frame, made of the library's sum.
func frameText(record string) string {
	n := len(record)
	count := string([]byte{byte(n >> 8), byte(n)})
	sum := crc32.ChecksumIEEE([]byte(count + record))
	return count + string([]byte{byte(sum >> 24), byte(sum >> 16), byte(sum >> 8), byte(sum)}) + record
}

// framesText are the frames of records, one behind the other.
func framesText(records ...string) string {
	var s string
	for _, record := range records {
		s += frameText(record)
	}
	return s
}

// digits are a number's to the base 256, as few as may be.
func digits(n int) string {
	if n == 0 {
		return ""
	}
	return digits(n/256) + string([]byte{byte(n % 256)})
}

// rootText is a root that tells two numbers.
func rootText(segment, record int) string {
	a, b := digits(segment), digits(record)
	return string([]byte{1, 0, byte(len(a))}) + a + string([]byte{2, 0, byte(len(b))}) + b
}

// long is a record of so many bytes, unlike others of another name.
func long(name string, n int) string {
	return (name + strings.Repeat("-", n))[:n]
}

// bar stands between what is safe and what is not, where a test writes a segment; no frame here has it in it.
const bar = "| safe, not safe |"

// newDisk has these segments, of which what is ahead of a bar is safe (all, without one), and a root.
func newDisk(root string, segments map[int]string) *disk.Disk {
	d := disk.New()
	d.Swap([]byte(root))
	for number, text := range segments {
		safe, rest, _ := strings.Cut(text, bar)
		d.Append(number, []byte(safe))
		d.Sync(number)
		d.Append(number, []byte(rest))
	}
	return d
}

func open(t *testing.T, d *disk.Disk) *Log {
	t.Helper()
	l, e := Open(d)
	if e != api.OK || l == nil {
		t.Fatalf("Open: %v, error %d", l, e)
	}
	return l
}

// put appends records that all have room.
func put(t *testing.T, l *Log, records ...string) {
	t.Helper()
	for _, record := range records {
		want := l.Next()
		if n, e := l.Append([]byte(record)); e != api.OK || n != want {
			t.Fatalf("Append of %d bytes: number %d, error %d, want number %d", len(record), n, e, want)
		}
	}
}

// wantError holds a call's error against the one that it should answer.
func wantError(t *testing.T, what string, got, want api.Errno) {
	t.Helper()
	if got != want {
		t.Errorf("%s: error %d, want %d", what, got, want)
	}
}

// wantLog says how a log stands: its first number, its records, how many numbers are forced, its segments.
func wantLog(t *testing.T, what string, l *Log, first int, records []string, forced, segments int) {
	t.Helper()
	next := first + len(records)
	if l.First() != first || l.Next() != next || l.Forced() != forced || l.Segments() != segments {
		t.Errorf("%s: first %d, next %d, forced %d, %d segments; want %d, %d, %d, %d",
			what, l.First(), l.Next(), l.Forced(), l.Segments(), first, next, forced, segments)
	}
	for i, record := range records {
		if b, e := l.Read(first + i); e != api.OK || string(b) != record {
			t.Errorf("%s: record %d: %.20q (%d bytes), error %d, want %.20q (%d bytes)", what, first+i, b, len(b), e, record, len(record))
		}
	}
	for _, number := range []int{first - 1, next} {
		if b, e := l.Read(number); e != api.ErrRecord || len(b) != 0 {
			t.Errorf("%s: record %d, not there: %.20q, error %d", what, number, b, e)
		}
	}
}

// wantDisk says what stands on a disk: its root, and segments, of which what is ahead of a bar is safe (all, without one).
func wantDisk(t *testing.T, what string, d *disk.Disk, root string, segments map[int]string) {
	t.Helper()
	if string(d.Root()) != root {
		t.Errorf("%s: root %q, want %q", what, d.Root(), root)
	}
	var numbers []int
	for number, text := range segments {
		numbers = append(numbers, number)
		safe, rest, _ := strings.Cut(text, bar)
		b, e := d.Read(number)
		if e != api.OK || string(b) != safe+rest || d.Safe(number) != len(safe) {
			t.Errorf("%s: segment %d: %.40q (%d bytes, %d safe), error %d; want %.40q (%d bytes, %d safe)",
				what, number, b, len(b), d.Safe(number), e, safe+rest, len(safe+rest), len(safe))
		}
	}
	slices.Sort(numbers)
	if got := d.Segments(); !slices.Equal(got, numbers) {
		t.Errorf("%s: segments %v, want %v", what, got, numbers)
	}
}

// whole tells all that a disk holds, so that two can be held against each other.
func whole(d *disk.Disk) string {
	s := "root " + string(d.Root())
	for _, number := range d.Segments() {
		b, _ := d.Read(number)
		s += fmt.Sprintf("; %d: %d bytes, %d safe: ", number, len(b), d.Safe(number)) + string(b)
	}
	return s
}
