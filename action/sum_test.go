package action

import (
	"math/big"
	"strconv"
	"strings"
	"testing"

	"belfry/api"
)

// P9.1: sums, written out by hand.
func TestSum(t *testing.T) {
	for _, c := range []struct {
		value string
		n     int64
		want  string
		e     api.Errno
	}{
		{"0", 0, "0", api.OK},
		{"0", 5, "5", api.OK},
		{"5", 0, "5", api.OK},
		{"5", -5, "0", api.OK},
		{"-5", 5, "0", api.OK},
		{"5", -7, "-2", api.OK},
		{"-5", -7, "-12", api.OK},
		{"99", 1, "100", api.OK},
		{"-100", 1, "-99", api.OK},
		{"0", greatest, "9223372036854775807", api.OK},
		{"0", least, "-9223372036854775808", api.OK},
		{"9223372036854775807", 0, "9223372036854775807", api.OK},
		{"9223372036854775806", 1, "9223372036854775807", api.OK},
		{"9223372036854775807", -1, "9223372036854775806", api.OK},
		{"9223372036854775807", least, "-1", api.OK},
		{"9223372036854775807", -greatest, "0", api.OK},
		{"-9223372036854775808", 0, "-9223372036854775808", api.OK},
		{"-9223372036854775807", -1, "-9223372036854775808", api.OK},
		{"-9223372036854775808", 1, "-9223372036854775807", api.OK},
		{"-9223372036854775808", greatest, "-1", api.OK},
		{"4611686018427387904", 1<<62 - 1, "9223372036854775807", api.OK},
		{"-4611686018427387904", -1 << 62, "-9223372036854775808", api.OK},
		{"9223372036854775807", 1, "", api.ErrMuch},
		{"1", greatest, "", api.ErrMuch},
		{"9223372036854775807", greatest, "", api.ErrMuch},
		{"4611686018427387904", 1 << 62, "", api.ErrMuch},
		{"-9223372036854775808", -1, "", api.ErrMuch},
		{"-1", least, "", api.ErrMuch},
		{"-9223372036854775808", least, "", api.ErrMuch},
		{"-4611686018427387905", -1 << 62, "", api.ErrMuch},
	} {
		if sum, e := Sum(c.value, c.n); sum != c.want || e != c.e {
			t.Errorf("Sum(%q, %d): %q, %v", c.value, c.n, sum, e)
		}
	}
}

// P9.1: texts that are no number's, whatever is to be added to them: one that would be too much for its sum is told as none, too.
func TestSumOfNoNumbers(t *testing.T) {
	texts := append(noNumbers(), strings.Repeat("0", 1<<16)+"1", strings.Repeat("9", 1<<16), long(1<<16))
	for _, text := range texts {
		for _, n := range []int64{0, 1, -1, greatest, least} {
			if sum, e := Sum(text, n); sum != "" || e != api.ErrNumber {
				t.Errorf("Sum(%.60q, %d): %q, %v", text, n, sum, e)
			}
		}
	}
}

// edges are numbers near 0, near both ends of 64 bits, near half of these, and near ends of fewer bits.
func edges() []int64 {
	var l []int64
	for _, middle := range []int64{0, 10, -10, greatest - 4, least + 4, 1 << 62, -1 << 62, 1 << 31, -1 << 31, 1 << 32, 1 << 53} {
		for d := range int64(9) {
			l = append(l, middle+d-4)
		}
	}
	return l
}

// P9.1: sums held against numbers without end.
func TestSumOfEdges(t *testing.T) {
	for _, a := range edges() {
		for _, b := range edges() {
			want := new(big.Int).Add(big.NewInt(a), big.NewInt(b))
			sum, e := Sum(strconv.FormatInt(a, 10), b)
			if want.IsInt64() && (e != api.OK || sum != want.String()) || !want.IsInt64() && (e != api.ErrMuch || sum != "") {
				t.Errorf("Sum(%d, %d): %q, %v, want %v", a, b, sum, e, want)
			}
		}
	}
}
