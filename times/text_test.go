package times_test

import (
	"fmt"
	"math"
	"math/big"
	"regexp"
	"slices"
	"strings"
	"testing"

	"groundling/api"
	"groundling/times"
)

// textOf is the text of a time by the definition.
func textOf(t int64) string {
	left := t % 86400
	return fmt.Sprintf("%dd%02d:%02d:%02d", t/86400, left/3600, left%3600/60, left%60)
}

var textForm = regexp.MustCompile(`\A(0|[1-9][0-9]*)d([01][0-9]|2[0-3]):([0-5][0-9]):([0-5][0-9])\z`)

// wantParse is what Parse of s returns by the definition.
func wantParse(s string) (int64, api.Errno) {
	parts := textForm.FindStringSubmatch(s)
	if parts == nil {
		return 0, api.ErrForm
	}
	sum := new(big.Int)
	for i, units := range []int64{1, 24, 60, 60} {
		n, _ := new(big.Int).SetString(parts[i+1], 10)
		sum.Add(sum.Mul(sum, big.NewInt(units)), n)
	}
	if !sum.IsInt64() {
		return 0, api.ErrForm
	}
	return sum.Int64(), api.OK
}

func checkParse(t *testing.T, s string) {
	t.Helper()
	want, wantE := wantParse(s)
	if n, e := times.Parse(s); n != want || e != wantE {
		t.Fatalf("Parse(%.60q) is %d, %d, not %d, %d", s, n, e, want, wantE)
	}
}

func checkText(t *testing.T, n int64) {
	t.Helper()
	text, e := times.Print(n)
	if text != textOf(n) || e != api.OK {
		t.Fatalf("Print(%d) is %q, %d, not %q", n, text, e, textOf(n))
	}
	if again, e := times.Parse(text); again != n || e != api.OK {
		t.Fatalf("Parse(%q) is %d, %d, not %d", text, again, e, n)
	}
}

// P5.4 and P5.8: Print, and Parse of Print, of all times of the first days, of the last ones, and of others.
func TestPrint(t *testing.T) {
	for n := range int64(200_000) {
		checkText(t, n)
	}
	for n := range int64(100_000) {
		checkText(t, math.MaxInt64-n)
	}
	for _, n := range instants() {
		checkText(t, n)
		checkText(t, n/86400*86400)
		checkText(t, max(n/86400*86400-1, 0))
	}
	s := source(4)
	for range 20_000 {
		checkText(t, int64(s.next()>>(1+s.below(63))))
	}
	for _, n := range noTimes {
		if text, e := times.Print(n); text != "" || e != api.ErrRange {
			t.Errorf("Print(%d) is %q, %d", n, text, e)
		}
	}
}

// P5.4 and P5.8: Print of Parse is the text; what is not a text has no time.
func TestParse(t *testing.T) {
	texts := []string{"0d00:00:00", "1d02:03:04", "9d23:59:59", "10d00:00:00", "106751991167299d23:59:59", "106751991167300d15:30:07", textOf(math.MaxInt64)}
	for _, text := range texts {
		n, e := times.Parse(text)
		if again, e2 := times.Print(n); e != api.OK || again != text || e2 != api.OK {
			t.Errorf("Parse(%q) is %d, %d, and its text %q, %d", text, n, e, again, e2)
		}
		for i := range len(text) + 1 {
			checkParse(t, text[:i])
			checkParse(t, text[i:])
			for c := range 256 {
				checkParse(t, text[:i]+string([]byte{byte(c)})+text[i:])
				if i < len(text) {
					checkParse(t, text[:i]+string([]byte{byte(c)})+text[i+1:])
				}
			}
			if i < len(text) {
				checkParse(t, text[:i]+text[i+1:])
			}
		}
	}
}

// P5.4: hours, minutes and seconds of all sizes.
func TestParseClock(t *testing.T) {
	for n := range 101 {
		for _, days := range []string{"0", "7", "106751991167299", "106751991167300"} {
			for _, form := range []string{"%sd%02d:00:00", "%sd00:%02d:00", "%sd00:00:%02d", "%sd%d:00:00", "%sd00:%d:00", "%sd00:00:%d", "%sd%03d:00:00", "%sd00:%03d:00", "%sd00:00:%03d"} {
				checkParse(t, fmt.Sprintf(form, days, n))
			}
		}
	}
}

// P5.4: strings that are no texts, among them days that are too many by little and by much.
func TestParseForm(t *testing.T) {
	for _, s := range []string{"", "d", ":", "::", "d::", "0", "0d", "00:00:00", "d00:00:00", "0d0:0:0", "0d00:00", "0d00:00:", "0d00:00:00:00", "0d00d00:00", "0d00:00d00", "0:00:00:00", "0D00:00:00", "00d00:00:00", "01d00:00:00", "-1d00:00:00", "-0d00:00:00", "+1d00:00:00", "0d-1:00:00", "0d+1:00:00", "0d00:-1:00", " 0d00:00:00", "0d00:00:00 ", "0d00:00:00\n", "0d 0:00:00", "0x1d00:00:00", "1_0d00:00:00", "0d00:00:0a", "0d00:0/:00", "0d00:00:0:", "٣d00:00:00", "0d24:00:00", "0d23:60:00", "0d23:59:60", "1d2:03:04", "106751991167300d15:30:08", "106751991167300d15:31:00", "106751991167301d00:00:00", "213503982334601d07:00:15", "213503982334601d07:00:16", "9223372036854775807d00:00:00", "9223372036854775808d00:00:00", "18446744073709551615d00:00:00", "18446744073709551616d00:00:00", "18446744073709551617d00:00:00"} {
		checkParse(t, s)
		if n, e := times.Parse(s); n != 0 || e != api.ErrForm {
			t.Errorf("Parse(%q) is %d, %d", s, n, e)
		}
	}
	for _, s := range []string{strings.Repeat("0", 100_000), strings.Repeat("9", 100_000), strings.Repeat("d", 100_000), strings.Repeat(":", 100_000), strings.Repeat("\xff", 100_000)} {
		checkParse(t, s)
		checkParse(t, s+"d00:00:00")
		checkParse(t, "0d00:00:00"+s)
	}
	// In 64 bits, which go round, the seconds of these days are those of 93784.
	goRound := new(big.Int).Lsh(big.NewInt(1), 64)
	for k := int64(1); k < 2000; k++ {
		sum := new(big.Int).Add(new(big.Int).Mul(goRound, big.NewInt(k)), big.NewInt(93784))
		days, left := new(big.Int).DivMod(sum, big.NewInt(86400), new(big.Int))
		checkParse(t, days.String()+strings.TrimPrefix(textOf(left.Int64()), "0"))
	}
}

// P5.4: random strings of the bytes of texts.
func TestParseRandom(t *testing.T) {
	s := source(5)
	found := 0
	for range 300_000 {
		b := []byte(textOf(int64(s.next() >> (1 + s.below(63)))))
		for range s.below(3) {
			b[s.below(len(b))] = "0123456789d:"[s.below(12)]
		}
		if s.below(8) == 0 {
			at := s.below(len(b) + 1)
			b = slices.Insert(b, at, "0123456789d:"[s.below(12)])
		}
		checkParse(t, string(b))
		if _, e := times.Parse(string(b)); e == api.OK {
			found++
		}
	}
	if found < 10_000 || found > 290_000 {
		t.Errorf("%d of the strings are texts", found)
	}
}

// The examples.
func TestTextExamples(t *testing.T) {
	for n, want := range map[int64]string{93784: "1d02:03:04", 0: "0d00:00:00", math.MaxInt64: "106751991167300d15:30:07"} {
		if text, e := times.Print(n); text != want || e != api.OK {
			t.Errorf("Print(%d) is %q, %d", n, text, e)
		}
	}
	for _, s := range []string{"1d2:03:04", "0d24:00:00"} {
		if n, e := times.Parse(s); n != 0 || e != api.ErrForm {
			t.Errorf("Parse(%q) is %d, %d", s, n, e)
		}
	}
}
