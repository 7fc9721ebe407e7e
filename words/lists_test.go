package words_test

import (
	"math"
	"math/big"
	"slices"
	"strings"
	"testing"

	"groundling/api"
	"groundling/words"
)

// expression is the list expression of an ascending list, by the definition.
func expression(l []int) string {
	if len(l) == 0 {
		return "-"
	}
	s := ""
	for i, n := range l {
		before, after := i > 0 && l[i-1] == n-1, i+1 < len(l) && l[i+1] == n+1
		switch {
		case before && after:
		case before:
			s += "-" + big.NewInt(int64(n)).String()
		case i > 0:
			s += "," + big.NewInt(int64(n)).String()
		default:
			s += big.NewInt(int64(n)).String()
		}
	}
	return s
}

func checkList(t *testing.T, l []int) {
	t.Helper()
	before := slices.Clone(l)
	want := expression(l)
	if s, e := words.List(l); s != want || e != api.OK {
		t.Errorf("List(%v) is %s, %d, not %s", l, s, e, want)
	}
	if !slices.Equal(l, before) {
		t.Errorf("List changes %v", before)
	}
	if got, e := words.ParseList(want); !slices.Equal(got, l) || e != api.OK {
		t.Errorf("ParseList(%s) is %v, %d, not %v", want, got, e, l)
	}
}

func upTo(n int) []int {
	var l []int
	for i := range n {
		l = append(l, i)
	}
	return l
}

func everySecond(n int) []int {
	var l []int
	for i := range n {
		l = append(l, 2*i)
	}
	return l
}

// P1.6 and P1.7: all lists of numbers around some others, written and read.
func TestListAll(t *testing.T) {
	for _, from := range []int{0, 7, 96, 999_999_991} {
		for bits := range 1 << 10 {
			var l []int
			for i := range 10 {
				if bits>>i&1 == 1 {
					l = append(l, from+i)
				}
			}
			if len(l) == 0 || l[len(l)-1] <= 1_000_000_000 {
				checkList(t, l)
			}
		}
	}
	checkList(t, nil)
	checkList(t, []int{})
	checkList(t, []int{1, 2, 3, 5, 8, 9})
	checkList(t, []int{0, 1_000_000_000})
	checkList(t, upTo(500))
	checkList(t, everySecond(500))
	checkList(t, append(upTo(499), 999_999_999))
}

// P1.6: the errors of List, and which one is first.
func TestListErrors(t *testing.T) {
	long := func(last int) []int { return append(upTo(500), last) }
	for i, x := range []struct {
		l    []int
		want api.Errno
	}{
		{upTo(500), api.OK},
		{upTo(501), api.ErrLong},
		{everySecond(501), api.ErrLong},
		{long(-1), api.ErrLong},
		{long(0), api.ErrLong},
		{make([]int, 501), api.ErrLong},
		{make([]int, 500), api.ErrForm},
		{[]int{-1}, api.ErrRange},
		{[]int{0}, api.OK},
		{[]int{1_000_000_000}, api.OK},
		{[]int{1_000_000_001}, api.ErrRange},
		{[]int{math.MaxInt}, api.ErrRange},
		{[]int{math.MinInt}, api.ErrRange},
		{[]int{2, 1, -1}, api.ErrRange},
		{[]int{1, 1, 1_000_000_001}, api.ErrRange},
		{[]int{2, 1}, api.ErrForm},
		{[]int{1, 1}, api.ErrForm},
		{[]int{1, 2, 3, 3}, api.ErrForm},
		{[]int{1, 3, 2}, api.ErrForm},
	} {
		if s, e := words.List(x.l); e != x.want || e != api.OK && s != "" {
			t.Errorf("%d: List is %s, %d, not %d", i, s, e, x.want)
		}
	}
}

// readList is the list with this expression, if it has short integers: what it seems to list must have just this expression.
func readList(s string) (l []int, ok bool) {
	if s == "-" {
		return nil, true
	}
	for _, piece := range strings.Split(s, ",") {
		first, last, long := strings.Cut(piece, "-")
		if !long {
			last = first
		}
		a, okA := new(big.Int).SetString(first, 10)
		b, okB := new(big.Int).SetString(last, 10)
		if !okA || !okB || a.Sign() < 0 || b.Sign() < 0 || a.Cmp(b) > 0 {
			return nil, false
		}
		for n := a.Int64(); n <= b.Int64(); n++ {
			l = append(l, int(n))
		}
	}
	for i := 1; i < len(l); i++ {
		if l[i] <= l[i-1] {
			return nil, false
		}
	}
	if expression(l) != s {
		return nil, false
	}
	return l, true
}

// P1.6 and P1.7: of all short strings exactly the list expressions are read; the integers are short enough to be listed.
func TestParseListShort(t *testing.T) {
	check := func(s string) {
		want, ok := readList(s)
		wantE := api.OK
		if !ok {
			wantE = api.ErrForm
		} else if len(want) > 500 {
			want, wantE = nil, api.ErrLong
		}
		if l, e := words.ParseList(s); !slices.Equal(l, want) || e != wantE {
			t.Fatalf("ParseList(%q) is %v, %d, not %v, %d", s, l, e, want, wantE)
		}
	}
	each("019,-", 6, check)
	each("1234,-", 6, check)
	for c := range 256 {
		b := string([]byte{byte(c)})
		for _, s := range []string{b, "1" + b, b + "1", "1" + b + "4", "1-2" + b + "9", "1,3" + b} {
			check(s)
		}
	}
}

// P1.6: the errors of ParseList, and which one is first.
func TestParseListErrors(t *testing.T) {
	nines, ten := strings.Repeat("9", 3000), "1"+strings.Repeat("0", 3000)
	eight := strings.Repeat("9", 2999) + "8"
	every, _ := words.List(everySecond(500))
	all := expression(everySecond(3000))
	for i, x := range []struct {
		s    string
		n    int
		want api.Errno
	}{
		{"", 0, api.ErrForm}, {"--", 0, api.ErrForm}, {"-1", 0, api.ErrForm}, {"1-", 0, api.ErrForm}, {",", 0, api.ErrForm}, {"1,", 0, api.ErrForm}, {",1", 0, api.ErrForm}, {"1,,3", 0, api.ErrForm}, {"-,1", 0, api.ErrForm}, {"1,-", 0, api.ErrForm},
		{"1-3,4", 0, api.ErrForm}, {"3-3", 0, api.ErrForm}, {"2,1", 0, api.ErrForm}, {"1,2", 0, api.ErrForm}, {"1,1", 0, api.ErrForm}, {"01", 0, api.ErrForm}, {"1-02", 0, api.ErrForm}, {"+1", 0, api.ErrForm}, {"1, 3", 0, api.ErrForm}, {"1-2-3", 0, api.ErrForm}, {"1-3,2-5", 0, api.ErrForm}, {"5-9,1-2", 0, api.ErrForm},
		{"9,10", 0, api.ErrForm}, {"99,100", 0, api.ErrForm}, {"8-9,10-11", 0, api.ErrForm}, {"9,11", 2, api.OK}, {"10,9", 0, api.ErrForm}, {"100,99", 0, api.ErrForm},
		{"0-499", 500, api.OK}, {"0-500", 0, api.ErrLong}, {"0-600", 0, api.ErrLong}, {"0-498,500", 500, api.OK}, {"0-499,501", 0, api.ErrLong}, {"0,2-501", 0, api.ErrLong}, {"0,2-500", 500, api.OK}, {every, 500, api.OK}, {every + ",1000", 0, api.ErrLong}, {all, 0, api.ErrLong}, {all + ",5999", 0, api.ErrForm},
		{"1000000000", 1, api.OK}, {"1000000001", 0, api.ErrRange}, {"999999999-1000000000", 2, api.OK}, {"1000000000-1000000001", 0, api.ErrRange}, {"0-1000000000", 0, api.ErrLong}, {"0-1000000001", 0, api.ErrRange}, {"0-600,2000000000", 0, api.ErrRange}, {"0-600,601", 0, api.ErrForm}, {"0-600,602-602", 0, api.ErrForm},
		{"1000000001,5", 0, api.ErrForm}, {"1000000001,1000000002", 0, api.ErrForm}, {"0-600,1000000001,", 0, api.ErrForm},
		{"9223372036854775807", 0, api.ErrRange}, {"9223372036854775808", 0, api.ErrRange}, {"18446744073709551616", 0, api.ErrRange}, {"18446744073709551617,18446744073709551618", 0, api.ErrForm}, {"18446744073709551617,18446744073709551619", 0, api.ErrRange}, {"5,18446744073709551617", 0, api.ErrRange}, {"18446744073709551617-18446744073709551616", 0, api.ErrForm}, {"18446744073709551616-18446744073709551616", 0, api.ErrForm}, {"18446744073709551616,5", 0, api.ErrForm}, {"0-18446744073709551617", 0, api.ErrRange},
		{nines, 0, api.ErrRange}, {"0" + nines, 0, api.ErrForm}, {nines + "," + ten, 0, api.ErrForm}, {nines + "-" + ten, 0, api.ErrRange}, {eight + "," + ten, 0, api.ErrRange}, {eight + "," + nines, 0, api.ErrForm}, {ten + "," + nines, 0, api.ErrForm}, {ten + "-" + nines, 0, api.ErrForm}, {"1-3," + ten, 0, api.ErrRange},
	} {
		if l, e := words.ParseList(x.s); len(l) != x.n || e != x.want {
			t.Errorf("%d: ParseList(%.40q) is %d integers, %d, not %d, %d", i, x.s, len(l), e, x.n, x.want)
		}
	}
}
