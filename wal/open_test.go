package wal

import (
	"maps"
	"math"
	"math/rand"
	"slices"
	"testing"

	"belfry/api"
	"belfry/disk"
)

// P4.1 (W1): what ends a log, and what is left on the disk.
func TestOpenEnds(t *testing.T) {
	a, b, c := framesText("a", "aa"), framesText("b"), framesText("c", "cc", "ccc")
	bad := "\x00\x01????x"
	none := map[int]string{}
	for name, x := range map[string]struct {
		root    string
		on      map[int]string
		first   int
		records []string
		left    map[int]string
	}{
		"all of it":                     {"", map[int]string{0: a, 1: b, 2: c}, 0, []string{"a", "aa", "b", "c", "cc", "ccc"}, map[int]string{0: a, 1: b, 2: c}},
		"nothing safe":                  {"", map[int]string{0: bar + a, 1: bar + b}, 0, []string{"a", "aa", "b"}, map[int]string{0: a, 1: b}},
		"a part safe":                   {"", map[int]string{0: a + bar + b, 1: b[:3] + bar + b[3:]}, 0, []string{"a", "aa", "b", "b"}, map[int]string{0: a + b, 1: b}},
		"first not there":               {"", map[int]string{1: b, 2: c}, 0, nil, none},
		"second not there":              {"", map[int]string{0: a, 2: c}, 0, []string{"a", "aa"}, map[int]string{0: a}},
		"first without bytes":           {"", map[int]string{0: "", 1: b}, 0, nil, none},
		"second without bytes":          {"", map[int]string{0: a, 1: "", 2: c}, 0, []string{"a", "aa"}, map[int]string{0: a}},
		"first without frames":          {"", map[int]string{0: bad, 1: b}, 0, nil, map[int]string{0: ""}},
		"second without frames":         {"", map[int]string{0: a, 1: bad, 2: c}, 0, []string{"a", "aa"}, map[int]string{0: a}},
		"first begins wrong":            {"", map[int]string{0: bad + a, 1: b}, 0, nil, map[int]string{0: ""}},
		"second begins wrong":           {"", map[int]string{0: a, 1: bad + b, 2: c}, 0, []string{"a", "aa"}, map[int]string{0: a}},
		"first ends wrong":              {"", map[int]string{0: a + bad, 1: b}, 0, []string{"a", "aa"}, map[int]string{0: a}},
		"first ends wrong, not safe":    {"", map[int]string{0: bar + a + bad, 1: b}, 0, []string{"a", "aa"}, map[int]string{0: a}},
		"second ends wrong":             {"", map[int]string{0: a, 1: b + bad, 2: c}, 0, []string{"a", "aa", "b"}, map[int]string{0: a, 1: b}},
		"wrong in the middle":           {"", map[int]string{0: a + bad + b, 1: b, 2: c}, 0, []string{"a", "aa"}, map[int]string{0: a}},
		"a byte":                        {"", map[int]string{0: "\x00"}, 0, nil, map[int]string{0: ""}},
		"a byte in the second":          {"", map[int]string{0: a, 1: "\x00"}, 0, []string{"a", "aa"}, map[int]string{0: a}},
		"a byte behind":                 {"", map[int]string{0: a + "\x00", 1: b}, 0, []string{"a", "aa"}, map[int]string{0: a}},
		"only noughts":                  {"", map[int]string{0: a + "\x00\x00\x00\x00\x00\x00\x00\x00", 1: b}, 0, []string{"a", "aa"}, map[int]string{0: a}},
		"others ahead and behind":       {rootText(5, 9), map[int]string{0: a, 4: a, 5: b, 6: c, 8: a, 1 << 41: a, math.MaxInt: ""}, 9, []string{"b", "c", "cc", "ccc"}, map[int]string{5: b, 6: c}},
		"others alone":                  {rootText(5, 9), map[int]string{0: a, 4: a, 6: c}, 9, nil, none},
		"first without frames, further": {rootText(5, 9), map[int]string{4: a, 5: bar + bad, 6: c}, 9, nil, map[int]string{5: ""}},
	} {
		d := newDisk(x.root, x.on)
		l := open(t, d)
		wantLog(t, name, l, x.first, x.records, x.first+len(x.records), len(x.left))
		wantDisk(t, name, d, x.root, x.left)
		put(t, l, "new")
		wantLog(t, name+", one more", open(t, d), x.first, append(slices.Clone(x.records), "new"), x.first+len(x.records)+1, max(1, len(x.left)))
	}
}

// P4.1 (W1): frames that are cut off at each place, in the first segment and in a later one.
func TestCutOff(t *testing.T) {
	texts := []string{"a", long("b", 40), "ccc", long("d", 300)}
	all := framesText(texts...)
	for n := range len(all) + 1 {
		var records []string
		good := ""
		for _, record := range texts {
			if len(good+frameText(record)) > n {
				break
			}
			good += frameText(record)
			records = append(records, record)
		}
		rest := framesText("behind")

		left, kept := map[int]string{0: good}, records
		if n == 0 {
			left = nil
		} else if n == len(good) {
			left, kept = map[int]string{0: good, 1: rest}, append(slices.Clone(records), "behind")
		}
		d := newDisk("", map[int]string{0: all[:n], 1: rest})
		wantLog(t, "first", open(t, d), 0, kept, len(kept), len(left))
		wantDisk(t, "first", d, "", left)

		left, kept = map[int]string{0: rest, 1: good}, append([]string{"behind"}, records...)
		if len(records) == 0 {
			left = map[int]string{0: rest}
		} else if n == len(good) {
			left, kept = map[int]string{0: rest, 1: good, 2: rest}, append(slices.Clone(kept), "behind")
		}
		d = newDisk("", map[int]string{0: rest, 1: all[:n], 2: rest})
		wantLog(t, "second", open(t, d), 0, kept, len(kept), len(left))
		wantDisk(t, "second", d, "", left)
	}
}

// P4.1 (W1): a frame of which one byte is wrong ends the log, whichever byte.
func TestWrongSum(t *testing.T) {
	for _, record := range []string{"a", "record", long("long", 256)} {
		good := frameText(record)
		for i := range len(good) {
			for _, turn := range []byte{1, 2, 0x40, 0x80, 0xff} {
				wrong := []byte(good)
				wrong[i] ^= turn
				d := newDisk("", map[int]string{0: framesText("x") + string(wrong), 1: framesText("y")})
				wantLog(t, "first", open(t, d), 0, []string{"x"}, 1, 1)
				wantDisk(t, "first", d, "", map[int]string{0: framesText("x")})
				d = newDisk("", map[int]string{0: framesText("x"), 1: string(wrong) + framesText("y")})
				wantLog(t, "second", open(t, d), 0, []string{"x"}, 1, 1)
				wantDisk(t, "second", d, "", map[int]string{0: framesText("x")})
			}
		}
	}
}

// P4.1 (words): a frame with a right sum, but of no record, is none.
func TestFramesOfNoRecord(t *testing.T) {
	for _, n := range []int{0, api.MaxRecord + 1, api.MaxRecord + 5, api.SegmentSize - headSize} {
		wrong := frameText(long("x", n))
		d := newDisk("", map[int]string{0: wrong, 1: framesText("y")})
		wantLog(t, "first", open(t, d), 0, nil, 0, 1)
		wantDisk(t, "first", d, "", map[int]string{0: ""})
		d = newDisk("", map[int]string{0: framesText("a"), 1: wrong, 2: framesText("y")})
		wantLog(t, "second", open(t, d), 0, []string{"a"}, 1, 1)
		wantDisk(t, "second", d, "", map[int]string{0: framesText("a")})
	}
	for _, n := range []int{1, api.MaxRecord - 1, api.MaxRecord} {
		d := newDisk("", map[int]string{0: frameText(long("x", n)), 1: framesText("y")})
		wantLog(t, "right", open(t, d), 0, []string{long("x", n), "y"}, 2, 2)
	}
	// The number of bytes, turned round, would be a record's.
	d := newDisk("", map[int]string{0: "\x01\x00" + frameText("x")[2:]})
	wantLog(t, "turned round", open(t, d), 0, nil, 0, 1)
}

// P4.1 (W1): what is opened stays as it is when it is opened again.
func TestOpenAgain(t *testing.T) {
	d := newDisk(rootText(2, 5), map[int]string{2: framesText("a", "b"), 3: framesText("c") + "?", 4: "?", 9: framesText("z")})
	wantLog(t, "once", open(t, d), 5, []string{"a", "b", "c"}, 8, 2)
	before := whole(d)
	wantLog(t, "twice", open(t, d), 5, []string{"a", "b", "c"}, 8, 2)
	wantLog(t, "behind power", open(t, d.Power([]int{1, 2, 3})), 5, []string{"a", "b", "c"}, 8, 2)
	if whole(d) != before {
		t.Errorf("now %s, was %s", whole(d), before)
	}
}

// split reads the right frames that a text begins with, in another way: by making them anew.
func split(text string) (records []string, good string) {
	for len(text) > 6 {
		n := 256*int(text[0]) + int(text[1])
		if n < 1 || n > 1000 || len(text) < 6+n || text[:6+n] != frameText(text[6:6+n]) {
			break
		}
		records = append(records, text[6:6+n])
		good += text[:6+n]
		text = text[6+n:]
	}
	return records, good
}

// expect says what Open of a disk with such a root should find and leave.
func expect(d *disk.Disk, segment int) (records []string, left map[int]string) {
	left = make(map[int]string)
	for number := segment; ; number++ {
		b, _ := d.Read(number)
		more, good := split(string(b))
		if len(b) == 0 || len(more) == 0 && number > segment {
			return records, left
		}
		left[number] = good
		records = append(records, more...)
		if good != string(b) {
			return records, left
		}
	}
}

// somePiece is a frame, or what looks like one.
func somePiece(r *rand.Rand) string {
	good := frameText(long(string(rune('a'+r.Intn(26))), 1+r.Intn(30)))
	switch r.Intn(12) {
	case 0:
		return good[:r.Intn(len(good))]
	case 1:
		wrong := []byte(good)
		wrong[r.Intn(len(wrong))] ^= byte(1 + r.Intn(255))
		return string(wrong)
	case 2:
		return string(make([]byte, r.Intn(9)))
	case 3:
		return frameText(long("long", r.Intn(api.SegmentSize)))
	}
	return good
}

// P4.1 (W1): disks of chance, held against the model.
func TestOpenOfChance(t *testing.T) {
	r := rand.New(rand.NewSource(4))
	roots := [][2]int{{0, 0}, {0, 3}, {2, 0}, {3, 700}, {api.MaxNumber - 1, api.MaxNumber}}
	for range 3000 {
		root := roots[r.Intn(len(roots))]
		text := rootText(root[0], root[1])
		if root == [2]int{} && r.Intn(2) == 0 {
			text = "no root"
		}
		d := newDisk(text, nil)
		for i := range 7 {
			for range r.Intn(4) {
				d.Append(max(0, root[0]+i-2), []byte(somePiece(r)))
			}
			if r.Intn(2) == 0 {
				d.Sync(max(0, root[0]+i-2))
			}
		}
		for range 3 {
			records, left := expect(d, root[0])
			l := open(t, d)
			wantLog(t, "opened", l, root[1], records, root[1]+len(records), len(left))
			wantDisk(t, "opened", d, text, left)
			if t.Failed() {
				t.FailNow()
			}
			last := slices.Max(append(slices.Collect(maps.Keys(left)), root[0]))
			d.Append(last, []byte(somePiece(r)))
			d.Append(last+1, []byte(somePiece(r)))
		}
	}
}
