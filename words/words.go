// Package words is layer 1: it reads and writes names, decimal numbers, quoted strings, lines of fields, texts of lines and list expressions. See shared/doc/01-words.md.
package words

import (
	"strconv"
	"strings"

	"groundling/api"
)

// Name reports whether s is a name.
func Name(s string) bool {
	if s == "" || len(s) > api.MaxWord || !letter(s[0]) {
		return false
	}
	for i := 1; i < len(s); i++ {
		if !letter(s[i]) && !digit(s[i]) && s[i] != '-' {
			return false
		}
	}
	return true
}

// Int reads the decimal form of an integer from low to high.
func Int(s string, low, high int64) (int64, api.Errno) {
	if !integer(s) {
		return 0, api.ErrForm
	}
	n, err := strconv.ParseInt(s, 10, 64)
	// The form is right, so an error means that the integer does not fit 64 bits: it is outside all limits.
	if err != nil || n < low || n > high {
		return 0, api.ErrRange
	}
	return n, api.OK
}

// Digits returns the decimal form of n.
func Digits(n int64) string { return strconv.FormatInt(n, 10) }

// integer reports whether s is the decimal form of an integer of any size.
func integer(s string) bool {
	size, negative := strings.CutPrefix(s, "-")
	return natural(size) && !(negative && size == "0")
}

// natural reports whether s is the decimal form of an integer of any size that is not negative.
func natural(s string) bool {
	if s == "" || s[0] == '0' && s != "0" {
		return false
	}
	for i := 0; i < len(s); i++ {
		if !digit(s[i]) {
			return false
		}
	}
	return true
}

func letter(c byte) bool { return c >= 'a' && c <= 'z' }

func digit(c byte) bool { return c >= '0' && c <= '9' }
