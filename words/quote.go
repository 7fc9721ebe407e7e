package words

import (
	"strings"

	"groundling/api"
)

const hexDigits = "0123456789abcdef"

// escape is a byte whose escape is a backslash and a letter, and this letter.
type escape struct{ plain, letter byte }

var escapes = [5]escape{
	{'"', '"'},
	{'\\', '\\'},
	{'\n', 'n'},
	{'\r', 'r'},
	{'\t', 't'},
}

// Quote returns the quoted form of s.
func Quote(s string) string {
	b := []byte{'"'}
	for i := 0; i < len(s); i++ {
		b = appendByte(b, s[i])
	}
	return string(append(b, '"'))
}

// Unquote returns the string whose quoted form is s.
func Unquote(s string) (string, api.Errno) {
	text, n := readQuoted(s)
	if n == 0 || n < len(s) {
		return "", api.ErrForm
	}
	return text, api.OK
}

// itself reports whether c stands for itself in a quoted form.
func itself(c byte) bool { return c >= 32 && c <= 126 && c != '"' && c != '\\' }

// appendByte appends c as a quoted form has it.
func appendByte(b []byte, c byte) []byte {
	if itself(c) {
		return append(b, c)
	}
	for _, e := range escapes {
		if e.plain == c {
			return append(b, '\\', e.letter)
		}
	}
	return append(b, '\\', 'x', hexDigits[c>>4], hexDigits[c&15])
}

// readQuoted reads the quoted form with which s begins, and returns its string, and how many bytes of s it has: 0 if s does not begin with one.
func readQuoted(s string) (text string, n int) {
	if s == "" || s[0] != '"' {
		return "", 0
	}
	var b []byte
	for n = 1; n < len(s) && s[n] != '"'; {
		c, size := readByte(s[n:])
		if size == 0 {
			return "", 0
		}
		b = append(b, c)
		n += size
	}
	if n == len(s) {
		return "", 0
	}
	return string(b), n + 1
}

// readByte reads the byte of a quoted form with which s, which is not empty, begins, and returns how many bytes of s it has: 0 if s does not begin with one.
func readByte(s string) (c byte, size int) {
	if itself(s[0]) {
		return s[0], 1
	}
	if s[0] != '\\' || len(s) < 2 {
		return 0, 0
	}
	for _, e := range escapes {
		if e.letter == s[1] {
			return e.plain, 2
		}
	}
	return readHex(s)
}

// readHex reads the escape with two digits with which s begins; its size is 0 if there is none.
func readHex(s string) (c byte, size int) {
	if len(s) < 4 || s[1] != 'x' {
		return 0, 0
	}
	high, low := strings.IndexByte(hexDigits, s[2]), strings.IndexByte(hexDigits, s[3])
	if high < 0 || low < 0 {
		return 0, 0
	}
	c = byte(high<<4 | low)
	// A string has one quoted form: digits are not for a byte that is written in another way.
	if string(appendByte(nil, c)) != s[:4] {
		return 0, 0
	}
	return c, 4
}
