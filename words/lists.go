package words

import (
	"iter"
	"strings"

	"groundling/api"
)

// run is a piece of a list expression: the first and the last one of consecutive integers, in decimal form.
type run struct{ first, last string }

// List returns the list expression of l.
func List(l []int) (string, api.Errno) {
	if len(l) > api.MaxListed {
		return "", api.ErrLong
	}
	for _, n := range l {
		if n < 0 || n > api.MaxNumber {
			return "", api.ErrRange
		}
	}
	for i := 1; i < len(l); i++ {
		if l[i] <= l[i-1] {
			return "", api.ErrForm
		}
	}
	if len(l) == 0 {
		return "-", api.OK
	}
	return printRuns(l), api.OK
}

// ParseList returns the list whose list expression is s.
func ParseList(s string) ([]int, api.Errno) {
	if s == "-" {
		return nil, api.OK
	}
	greatest, ok := checkRuns(s)
	if !ok {
		return nil, api.ErrForm
	}
	if _, e := Int(greatest, 0, api.MaxNumber); e != api.OK {
		return nil, e
	}
	return expand(s)
}

// printRuns writes the runs of an ascending list.
func printRuns(l []int) string {
	var pieces []string
	for from := 0; from < len(l); {
		to := from
		for to+1 < len(l) && l[to+1] == l[to]+1 {
			to++
		}
		piece := Digits(int64(l[from]))
		if to > from {
			piece += "-" + Digits(int64(l[to]))
		}
		pieces = append(pieces, piece)
		from = to + 1
	}
	return strings.Join(pieces, ",")
}

// runsOf yields the runs of a list expression, each with true; at the first piece that is none it yields false, and ends.
func runsOf(s string) iter.Seq2[run, bool] {
	return func(yield func(run, bool) bool) {
		for rest, more := s, true; more; {
			var piece string
			piece, rest, more = strings.Cut(rest, ",")
			r, ok := readRun(piece)
			if !yield(r, ok) || !ok {
				return
			}
		}
	}
}

func readRun(piece string) (r run, ok bool) {
	first, last, long := strings.Cut(piece, "-")
	if !natural(first) {
		return run{}, false
	}
	if !long {
		return run{first, first}, true
	}
	if !natural(last) || !less(first, last) {
		return run{}, false
	}
	return run{first, last}, true
}

// checkRuns reports whether s consists of runs, each with a gap before the next one, and returns the greatest integer. Integers stay in decimal form, since they may have any size.
func checkRuns(s string) (greatest string, ok bool) {
	for r, read := range runsOf(s) {
		if !read || greatest != "" && !less(successor(greatest), r.first) {
			return "", false
		}
		greatest = r.last
	}
	return greatest, true
}

// expand returns the integers of the runs of s, which are in their range; it counts before it appends, since a short expression may stand for very many.
func expand(s string) ([]int, api.Errno) {
	var l []int
	for r := range runsOf(s) {
		first, _ := Int(r.first, 0, api.MaxNumber)
		last, _ := Int(r.last, 0, api.MaxNumber)
		if last-first >= int64(api.MaxListed-len(l)) {
			return nil, api.ErrLong
		}
		for n := first; n <= last; n++ {
			l = append(l, int(n))
		}
	}
	return l, api.OK
}

// less compares two naturals in decimal form.
func less(a, b string) bool {
	if len(a) != len(b) {
		return len(a) < len(b)
	}
	return a < b
}

// successor returns the decimal form of the natural after s.
func successor(s string) string {
	b := []byte(s)
	for i := len(b) - 1; i >= 0; i-- {
		if b[i] != '9' {
			b[i]++
			return string(b)
		}
		b[i] = '0'
	}
	return "1" + string(b)
}
