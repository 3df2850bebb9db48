package crc

import (
	"bytes"
	"hash/crc32"
	"math"
	"math/rand"
	"slices"
	"strings"
	"testing"
)

// slow is the sum as the chapter's words say it, bit by bit.
func slow(b []byte) uint32 {
	rest := uint32(math.MaxUint32)
	for _, x := range b {
		for i := range 8 {
			bit := uint32(x)>>i&1 ^ rest&1
			rest >>= 1
			if bit != 0 {
				rest ^= 0xEDB88320
			}
		}
	}
	return ^rest
}

func random(r *rand.Rand, n int) []byte {
	b := make([]byte, n)
	r.Read(b)
	return b
}

// P2.1: sums that are known from elsewhere.
func TestSumKnown(t *testing.T) {
	cases := []struct {
		text string
		want uint32
	}{
		{"", 0},
		{"123456789", 0xCBF43926},
		{"a", 0xE8B7BE43},
		{"abc", 0x352441C2},
		{"message digest", 0x20159D7F},
		{"\x00", 0xD202EF8D},
		{"\x00\x00\x00\x00", 0x2144DF1C},
		{"\xff", 0xFF000000},
		{"\xff\xff\xff\xff", 0xFFFFFFFF},
		{"The quick brown fox jumps over the lazy dog", 0x414FA339},
		{strings.Repeat("\x00", 32), 0x190A55AD},
		{strings.Repeat("\xff", 32), 0xFF6CAB0B},
	}
	for _, c := range cases {
		if got := Sum([]byte(c.text)); got != c.want {
			t.Errorf("Sum(%q) = %08X, want %08X", c.text, got, c.want)
		}
		if got := More(0, []byte(c.text)); got != c.want {
			t.Errorf("More(0, %q) = %08X, want %08X", c.text, got, c.want)
		}
	}
}

// P2.1: no bytes at all.
func TestNothing(t *testing.T) {
	for _, none := range [][]byte{nil, {}} {
		if got := Sum(none); got != 0 {
			t.Errorf("Sum of no bytes = %08X", got)
		}
		for _, sum := range []uint32{0, 1, 0xCBF43926, math.MaxUint32} {
			if got := More(sum, none); got != sum {
				t.Errorf("More(%08X) of no bytes = %08X", sum, got)
			}
		}
	}
}

// P2.1: every list of one byte, every one of two, and longer ones.
func TestSumBitByBit(t *testing.T) {
	for a := range 256 {
		one := []byte{byte(a)}
		if Sum(one) != slow(one) {
			t.Fatalf("Sum(%x) = %08X, want %08X", one, Sum(one), slow(one))
		}
		for b := range 256 {
			two := []byte{byte(a), byte(b)}
			if Sum(two) != slow(two) {
				t.Fatalf("Sum(%x) = %08X, want %08X", two, Sum(two), slow(two))
			}
		}
	}
	r := rand.New(rand.NewSource(1))
	for n := range 300 {
		b := random(r, n)
		if Sum(b) != slow(b) || Sum(b) != crc32.ChecksumIEEE(b) {
			t.Fatalf("Sum(%x) = %08X, want %08X", b, Sum(b), slow(b))
		}
	}
}

// P2.1: More goes on from any number, as every one is a sum of some bytes.
func TestMore(t *testing.T) {
	r := rand.New(rand.NewSource(2))
	for n := range 300 {
		sum, b := r.Uint32(), random(r, n)
		if got, want := More(sum, b), crc32.Update(sum, crc32.IEEETable, b); got != want {
			t.Fatalf("More(%08X, %x) = %08X, want %08X", sum, b, got, want)
		}
	}
}

// P2.1: Noughts is More of so many noughts.
func TestNoughts(t *testing.T) {
	r := rand.New(rand.NewSource(3))
	sums := []uint32{0, 1, 1 << 31, math.MaxUint32, 0xCBF43926, r.Uint32()}
	for _, sum := range sums {
		want := sum
		for n := range 2100 {
			if got := Noughts(sum, n); got != want {
				t.Fatalf("Noughts(%08X, %d) = %08X, want %08X", sum, n, got, want)
			}
			want = crc32.Update(want, crc32.IEEETable, []byte{0})
		}
	}
}

// P2.1: Join is the sum of both lists.
func TestJoin(t *testing.T) {
	r := rand.New(rand.NewSource(4))
	for n := range 400 {
		a, b := random(r, r.Intn(50)), random(r, n)
		want := slow(slices.Concat(a, b))
		if got := Join(slow(a), slow(b), n); got != want {
			t.Fatalf("Join of %x and %x = %08X, want %08X", a, b, got, want)
		}
	}
}

// P2.1: an empty list ahead, behind, and on both sides.
func TestJoinNothing(t *testing.T) {
	for _, sum := range []uint32{0, 1, 0xCBF43926, math.MaxUint32} {
		if got := Join(sum, 0, 0); got != sum {
			t.Errorf("Join(%08X, 0, 0) = %08X", sum, got)
		}
		for _, n := range []int{1, 9, 1000, math.MaxInt} {
			if got := Join(0, sum, n); got != sum {
				t.Errorf("Join(0, %08X, %d) = %08X", sum, n, got)
			}
		}
	}
}

// P2.1: an n below 0 is as 0.
func TestBelowNought(t *testing.T) {
	r := rand.New(rand.NewSource(5))
	sums := []uint32{0, 1, 5, math.MaxUint32, r.Uint32(), r.Uint32()}
	for _, n := range []int{-1, -2, -3, -8, -1000, math.MinInt32, math.MinInt + 1, math.MinInt} {
		for _, a := range sums {
			if got := Noughts(a, n); got != a || got != Noughts(a, 0) {
				t.Errorf("Noughts(%08X, %d) = %08X", a, n, got)
			}
			if got := Join(a, 0, n); got != a {
				t.Errorf("Join(%08X, 0, %d) = %08X", a, n, got)
			}
			for _, b := range sums {
				if Join(a, b, n) != Join(a, b, 0) {
					t.Errorf("Join(%08X, %08X, %d) is not as with 0", a, b, n)
				}
			}
		}
	}
}

// bulk goes on from a sum with n noughts, by the library.
func bulk(sum uint32, n int) uint32 {
	piece := make([]byte, 1<<20)
	for ; n > len(piece); n -= len(piece) {
		sum = crc32.Update(sum, crc32.IEEETable, piece)
	}
	return crc32.Update(sum, crc32.IEEETable, piece[:n])
}

// P2.1: a great n. Behind 2^32 - 1 noughts the sums come round, so that the
// greatest n is as 2^31 - 1, which can be summed one by one.
func TestGreat(t *testing.T) {
	const round = 1<<32 - 1
	for _, n := range []int{1 << 20, 1<<24 + 5, math.MaxInt32} {
		want := bulk(0xCBF43926, n)
		if got := Noughts(0xCBF43926, n); got != want {
			t.Errorf("Noughts of %d = %08X, want %08X", n, got, want)
		}
		if got := Noughts(0xCBF43926, n+round); got != want {
			t.Errorf("Noughts of %d = %08X, want %08X", n+round, got, want)
		}
		if got := Join(0xCBF43926, bulk(0, n), n); got != want {
			t.Errorf("Join of %d = %08X, want %08X", n, got, want)
		}
	}
	for _, sum := range []uint32{0, 1, 0xCBF43926, math.MaxUint32} {
		if got := Noughts(sum, round); got != sum {
			t.Errorf("Noughts(%08X, 2^32-1) = %08X", sum, got)
		}
		if got, want := Noughts(sum, math.MaxInt), Noughts(sum, math.MaxInt32); got != want {
			t.Errorf("Noughts(%08X, 2^63-1) = %08X, want %08X", sum, got, want)
		}
		if got, want := Join(sum, 77, math.MaxInt), Join(sum, 77, math.MaxInt32); got != want {
			t.Errorf("Join(%08X, 77, 2^63-1) = %08X, want %08X", sum, got, want)
		}
	}
}

// P2.1: each bit of n counts by itself: noughts come together.
func TestNoughtsComeTogether(t *testing.T) {
	r := rand.New(rand.NewSource(6))
	for i := range 62 {
		sum, n := r.Uint32(), 1<<i
		if Noughts(Noughts(sum, n), n) != Noughts(sum, 2*n) {
			t.Errorf("twice 2^%d noughts", i)
		}
		m := int(r.Int63()) >> 1
		if Noughts(Noughts(sum, n), m) != Noughts(sum, n+m) {
			t.Errorf("2^%d noughts and %d", i, m)
		}
	}
}

// P2.2: however bytes are cut in two or in three.
func TestCuts(t *testing.T) {
	r := rand.New(rand.NewSource(7))
	b := random(r, 60)
	want := slow(b)
	for i := range len(b) + 1 {
		x, y := b[:i], b[i:]
		if More(Sum(x), y) != want || Join(Sum(x), Sum(y), len(y)) != want {
			t.Fatalf("cut at %d", i)
		}
		for j := i; j <= len(b); j++ {
			y, z := b[i:j], b[j:]
			if More(More(Sum(x), y), z) != want {
				t.Fatalf("More: cut at %d and %d", i, j)
			}
			if Join(Join(Sum(x), Sum(y), len(y)), Sum(z), len(z)) != want {
				t.Fatalf("Join from the front: cut at %d and %d", i, j)
			}
			if Join(Sum(x), Join(Sum(y), Sum(z), len(z)), len(y)+len(z)) != want {
				t.Fatalf("Join from the back: cut at %d and %d", i, j)
			}
		}
	}
}

// P2.2: byte by byte, and in many pieces, by More and by Join in turn.
func TestPieces(t *testing.T) {
	r := rand.New(rand.NewSource(8))
	for range 200 {
		b := random(r, r.Intn(3000))
		byByte, inPieces := Sum(nil), Sum(nil)
		for _, x := range b {
			byByte = More(byByte, []byte{x})
		}
		for rest := b; len(rest) > 0; {
			n := 1 + r.Intn(min(len(rest), 400))
			if n%2 == 0 {
				inPieces = More(inPieces, rest[:n])
			} else {
				inPieces = Join(inPieces, Sum(rest[:n]), n)
			}
			rest = rest[n:]
		}
		if want := slow(b); Sum(b) != want || byByte != want || inPieces != want {
			t.Fatalf("%d bytes: %08X at once, %08X byte by byte, %08X in pieces, want %08X", len(b), Sum(b), byByte, inPieces, want)
		}
	}
}

// P2.2: noughts in the midst of bytes may be told by their number alone.
func TestNoughtsBetween(t *testing.T) {
	r := rand.New(rand.NewSource(9))
	for n := range 200 {
		a, b := random(r, 1+r.Intn(9)), random(r, 1+r.Intn(9))
		want := slow(slices.Concat(a, make([]byte, n), b))
		if More(Noughts(Sum(a), n), b) != want || Join(Noughts(Sum(a), n), Sum(b), len(b)) != want {
			t.Fatalf("%d noughts between", n)
		}
	}
}

// P2.3: each other byte at each place.
func TestOneByte(t *testing.T) {
	b := random(rand.New(rand.NewSource(10)), 70)
	want := Sum(b)
	for i := range b {
		for d := 1; d < 256; d++ {
			b[i] ^= byte(d)
			if Sum(b) == want {
				t.Fatalf("byte %d changed by %02x: the same sum", i, d)
			}
			b[i] ^= byte(d)
		}
	}
}

// P2.3: each other pair of neighbours, and many of three and of four: those
// where few bits change, and random ones.
func TestNeighbours(t *testing.T) {
	r := rand.New(rand.NewSource(11))
	for _, size := range []int{4, 5, 33} {
		b := random(r, size)
		want := Sum(b)
		unlike := func(i int, d uint32) {
			t.Helper()
			c := bytes.Clone(b)
			for j := range 4 {
				c[i+j] ^= byte(d >> (8 * j))
			}
			if d != 0 && Sum(c) == want {
				t.Fatalf("bytes from %d of %d on changed by %08x: the same sum", i, size, d)
			}
		}
		for i := range size - 3 {
			for d := range uint32(1 << 16) {
				unlike(i, d<<(8*(i%3)))
			}
			for j := range 32 {
				for k := range 32 {
					unlike(i, 1<<j|1<<k)
					unlike(i, 1<<j-1<<k)
				}
			}
			unlike(i, polynomial)
			unlike(i, math.MaxUint32)
			for range 2000 {
				unlike(i, r.Uint32())
			}
		}
	}
}

// P2.3: of four bytes no two lists have one sum: each of the 32 bits changes
// it in a way that no others together do.
func TestFourBytesTellAll(t *testing.T) {
	var rows [32]uint32
	base := Sum(make([]byte, 4))
	for i := range rows {
		b := make([]byte, 4)
		b[i/8] = 1 << (i % 8)
		row := Sum(b) ^ base
		for _, other := range rows[:i] {
			row = min(row, row^other)
		}
		if row == 0 {
			t.Fatalf("bit %d changes the sum as others do", i)
		}
		rows[i] = row
		slices.SortFunc(rows[:i+1], func(a, b uint32) int { return int(int64(b) - int64(a)) })
	}
}

// The bytes that are handed in stay as they are, and what lies behind them
// counts for nothing.
func TestBytesStay(t *testing.T) {
	all := []byte("123456789 and behind")
	b := all[:9]
	for range 2 {
		if Sum(b) != 0xCBF43926 || More(Sum(b[:5]), b[5:9]) != 0xCBF43926 {
			t.Fatal("what lies behind counts")
		}
		if string(all[:9]) != "123456789" {
			t.Fatalf("the bytes became %q", all)
		}
		copy(all[9:], "xxxxxxxxxxx")
	}
}

func FuzzPieces(f *testing.F) {
	f.Add([]byte(nil), []byte("123456789"), 3)
	f.Fuzz(func(t *testing.T, a, b []byte, n int) {
		want := crc32.ChecksumIEEE(slices.Concat(a, b))
		if Sum(slices.Concat(a, b)) != want || More(Sum(a), b) != want || Join(Sum(a), Sum(b), len(b)) != want {
			t.Errorf("%x and %x", a, b)
		}
		if n < 1<<16 && Noughts(Sum(a), n) != More(Sum(a), make([]byte, max(n, 0))) {
			t.Errorf("%x and %d noughts", a, n)
		}
	})
}
