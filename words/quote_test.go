package words_test

import (
	"fmt"
	"strings"
	"testing"

	"groundling/api"
	"groundling/words"
)

// quotedByte is a byte in a quoted form, by the definition.
func quotedByte(c byte) string {
	switch {
	case c == '"':
		return `\"`
	case c == '\\':
		return `\\`
	case c == 10:
		return `\n`
	case c == 13:
		return `\r`
	case c == 9:
		return `\t`
	case c < 32 || c > 126:
		return fmt.Sprintf(`\x%02x`, c)
	}
	return string([]byte{c})
}

func quoted(s string) string {
	var b strings.Builder
	for i := range len(s) {
		b.WriteString(quotedByte(s[i]))
	}
	return `"` + b.String() + `"`
}

// allBytes is a string with each byte, twice, in two orders.
func allBytes() string {
	var b []byte
	for c := range 256 {
		b = append(b, byte(c), byte(255-c))
	}
	return string(b)
}

func checkQuote(t *testing.T, s string) {
	t.Helper()
	want := quoted(s)
	if got := words.Quote(s); got != want {
		t.Errorf("Quote(%.60q) is %.60s, not %.60s", s, got, want)
	}
	if got, e := words.Unquote(want); got != s || e != api.OK {
		t.Errorf("Unquote(%.60s) is %.60q, %d", want, got, e)
	}
}

// P1.2 and P1.7: Quote writes each byte as it is defined, and Unquote is its inverse, whatever the length is.
func TestQuoteBytes(t *testing.T) {
	checkQuote(t, "")
	for c := range 256 {
		b := string([]byte{byte(c)})
		for _, s := range []string{b, "a" + b, b + "a", b + b, "0" + b + "41", `\` + b, b + `"`} {
			checkQuote(t, s)
		}
	}
	checkQuote(t, allBytes())
	checkQuote(t, "a\n\x00\"")
	for _, n := range []int{1999, 2000, 2001, 8192, 8193, 1 << 20, 1<<20 + 1, 3 << 20} {
		checkQuote(t, strings.Repeat("a", n))
	}
	checkQuote(t, strings.Repeat("\xff\"", 1<<20))
}

// P1.2 and P1.7: of all short strings exactly the quoted forms are accepted, each of which is the quoted form of what was read.
func TestUnquoteShort(t *testing.T) {
	read := 0
	each("\"\\x0n4a ", 6, func(s string) {
		got, e := words.Unquote(s)
		if e == api.OK {
			read++
			if quoted(got) != s || words.Quote(got) != s {
				t.Fatalf("Unquote(%s) is %q", s, got)
			}
		} else if e != api.ErrForm || got != "" {
			t.Fatalf("Unquote(%s) is %q, %d", s, got, e)
		}
	})
	want := 0 // the strings over the alphabet that are quoted forms, counted by their written bytes
	each("\"\\x0n4a \n\x00\x04\xa0\xa4\xaa", 4, func(s string) {
		if q := quoted(s); len(q) <= 6 && strings.Trim(q, "\"\\x0n4a ") == "" {
			want++
		}
	})
	if read != want {
		t.Errorf("Unquote accepts %d strings, not %d", read, want)
	}
}

// P1.2: the escape with digits is accepted just for bytes that have no other form, with lower-case digits.
func TestUnquoteHex(t *testing.T) {
	for high := range 256 {
		for low := range 256 {
			s := `"\x` + string([]byte{byte(high), byte(low)}) + `"`
			want, ok := "", false
			const digits = "0123456789abcdef"
			i, j := strings.IndexByte(digits, byte(high)), strings.IndexByte(digits, byte(low))
			if i >= 0 && j >= 0 && quotedByte(byte(16*i+j)) == s[1:5] {
				want, ok = string([]byte{byte(16*i + j)}), true
			}
			got, e := words.Unquote(s)
			if got != want || (e == api.OK) != ok || !ok && e != api.ErrForm {
				t.Errorf("Unquote(%q) is %q, %d", s, got, e)
			}
		}
	}
}

// P1.2: what may stand after a backslash, between the quotes, and outside of them.
func TestUnquoteOthers(t *testing.T) {
	for c := range 256 {
		b := string([]byte{byte(c)})
		plain := quotedByte(byte(c)) == b
		if got, e := words.Unquote(`"` + b + `"`); plain && (got != b || e != api.OK) || !plain && (got != "" || e != api.ErrForm) {
			t.Errorf("Unquote of byte %d is %q, %d", c, got, e)
		}
		escaped := strings.Contains(`"\nrt`, b)
		if got, e := words.Unquote(`"\` + b + `"`); escaped && (len(got) != 1 || e != api.OK) || !escaped && (got != "" || e != api.ErrForm) {
			t.Errorf("Unquote of escape %d is %q, %d", c, got, e)
		}
		for _, s := range []string{b + `"a"`, `"a"` + b, b} {
			if got, e := words.Unquote(s); got != "" || e != api.ErrForm {
				t.Errorf("Unquote(%q) is %q, %d", s, got, e)
			}
		}
	}
	for _, s := range []string{``, `"`, `"a`, `"\x41"`, `"\x7F"`, `"\"`, `"\x`, `"\x"`, `"\x0`, `"\x0"`, `"\x00`, `""""`, `"a""b"`, `""a`, `'a'`} {
		if got, e := words.Unquote(s); got != "" || e != api.ErrForm {
			t.Errorf("Unquote(%q) is %q, %d", s, got, e)
		}
	}
}
