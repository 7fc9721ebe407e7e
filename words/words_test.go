package words_test

import (
	"math"
	"math/big"
	"strings"
	"testing"

	"groundling/api"
	"groundling/words"
)

// each calls f with all strings of at most most bytes of the alphabet.
func each(alphabet string, most int, f func(s string)) {
	level := []string{""}
	for n := 0; ; n++ {
		for _, s := range level {
			f(s)
		}
		if n == most {
			return
		}
		var next []string
		for _, s := range level {
			for i := range len(alphabet) {
				next = append(next, s+alphabet[i:i+1])
			}
		}
		level = next
	}
}

// P1.1: the first byte of a name is a lower-case letter, the others are those, digits and hyphens; tried with each byte.
func TestNameBytes(t *testing.T) {
	const lower, more = "abcdefghijklmnopqrstuvwxyz", "0123456789-"
	for c := range 256 {
		b := string([]byte{byte(c)})
		first := strings.Contains(lower, b)
		later := first || strings.Contains(more, b)
		if words.Name(b) != first {
			t.Errorf("Name(%q) is not %t", b, first)
		}
		for at := 1; at < 16; at++ {
			s := strings.Repeat("a", at) + b
			if words.Name(s) != later {
				t.Errorf("Name(%q) is not %t", s, later)
			}
			if s += strings.Repeat("a", 15-at); words.Name(s) != later {
				t.Errorf("Name(%q) is not %t", s, later)
			}
		}
		if s := b + "bc"; words.Name(s) != first {
			t.Errorf("Name(%q) is not %t", s, first)
		}
	}
}

// P1.1: a name has 1 to 16 bytes.
func TestNameLength(t *testing.T) {
	for n := range 40 {
		if want := n >= 1 && n <= 16; words.Name(strings.Repeat("z", n)) != want {
			t.Errorf("Name of %d letters is not %t", n, want)
		}
	}
	if words.Name(strings.Repeat("a", 1<<20)) {
		t.Error("Name accepts a long string")
	}
	for s, want := range map[string]bool{"web-1": true, "Web": false, "abcdefghijklmnopq": false, "a--": true, "é": false, "aé": false, "a ": false, " a": false} {
		if words.Name(s) != want {
			t.Errorf("Name(%q) is not %t", s, want)
		}
	}
}

// wantInt is Int by its definition: an integer has just one decimal form, which math/big writes.
func wantInt(s string, low, high int64) (int64, api.Errno) {
	n, ok := new(big.Int).SetString(s, 10)
	if !ok || n.String() != s {
		return 0, api.ErrForm
	}
	if n.Cmp(big.NewInt(low)) < 0 || n.Cmp(big.NewInt(high)) > 0 {
		return 0, api.ErrRange
	}
	return n.Int64(), api.OK
}

func checkInt(t *testing.T, s string, low, high int64) {
	t.Helper()
	n, e := words.Int(s, low, high)
	if want, wantE := wantInt(s, low, high); n != want || e != wantE {
		t.Fatalf("Int(%.60q, %d, %d) is %d, %d, not %d, %d", s, low, high, n, e, want, wantE)
	}
}

// P1.1: of all short strings exactly the decimal forms are read.
func TestIntForms(t *testing.T) {
	each("-+019_ x", 5, func(s string) {
		checkInt(t, s, math.MinInt64, math.MaxInt64)
		checkInt(t, s, -9, 100)
	})
	for c := range 256 {
		b := string([]byte{byte(c)})
		for _, s := range []string{b, "1" + b, b + "1", "1" + b + "1", "-" + b} {
			checkInt(t, s, -200, 200)
		}
	}
}

// P1.1: limits are inclusive, any limits may be given, and an integer of any size is a matter of range, not of form.
func TestIntRanges(t *testing.T) {
	limits := []int64{math.MinInt64, math.MinInt64 + 1, -11, -10, -1, 0, 1, 9, 10, 11, math.MaxInt64 - 1, math.MaxInt64}
	nines, ones := strings.Repeat("9", 5000), "1"+strings.Repeat("0", 5000)
	forms := []string{"-9223372036854775809", "9223372036854775808", "18446744073709551616", "18446744073709551617", "-18446744073709551616", "-18446744073709551606", nines, "-" + nines, ones, "-" + ones, "0" + nines, "-0" + nines, nines + "x"}
	for _, n := range limits {
		forms = append(forms, words.Digits(n))
	}
	for _, s := range forms {
		for _, low := range limits {
			for _, high := range limits {
				checkInt(t, s, low, high)
			}
		}
	}
	for i, x := range []struct {
		s         string
		low, high int64
		want      api.Errno
	}{{"007", 0, 10, api.ErrForm}, {"-0", 0, 10, api.ErrForm}, {"12", 0, 10, api.ErrRange}, {"10", 0, 10, api.OK}, {"0", 0, 10, api.OK}, {"-1", 0, 10, api.ErrRange}, {"5", 6, 4, api.ErrRange}, {"x", 6, 4, api.ErrForm}} {
		if _, e := words.Int(x.s, x.low, x.high); e != x.want {
			t.Errorf("%d: Int(%s, %d, %d) is %d, not %d", i, x.s, x.low, x.high, e, x.want)
		}
	}
}

// P1.1 and P1.7: Digits writes the decimal form, which Int reads.
func TestDigits(t *testing.T) {
	numbers := []int64{math.MinInt64, math.MinInt64 + 1, math.MaxInt64, math.MaxInt64 - 1}
	for n := int64(-2000); n <= 2000; n++ {
		numbers = append(numbers, n)
	}
	for n := int64(1); n > 0 && n < math.MaxInt64/10; n *= 10 {
		numbers = append(numbers, n, n-1, n+1, -n, -n-1, -n+1)
	}
	for _, n := range numbers {
		s := words.Digits(n)
		if want := big.NewInt(n).String(); s != want {
			t.Errorf("Digits(%d) is %s", n, s)
		}
		if got, e := words.Int(s, n, n); got != n || e != api.OK {
			t.Errorf("Int of Digits(%d) is %d, %d", n, got, e)
		}
	}
}
