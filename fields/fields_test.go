package fields_test

import (
	"bytes"
	"math"
	"math/big"
	"slices"
	"strings"
	"testing"

	"groundling/api"
	"groundling/fields"
)

type (
	rule  = api.FdRule
	field = api.FdField
)

// number returns the rule of a number.
func number(tag int, low, high uint64, must bool) rule {
	return rule{Tag: tag, Kind: api.FdNum, Low: low, High: high, Must: must}
}

// text returns the rule of bytes.
func text(tag int, low, high uint64, must bool) rule {
	return rule{Tag: tag, Kind: api.FdBytes, Low: low, High: high, Must: must}
}

// ofNumber returns a field with a number.
func ofNumber(tag int, n uint64) field { return field{Tag: tag, Num: n} }

// ofBytes returns a field with bytes.
func ofBytes(tag int, s string) field { return field{Tag: tag, Bytes: s} }

// exampleRules are the rules R of the examples.
func exampleRules() []rule { return []rule{number(1, 0, 300, true), text(4, 1, 3, false)} }

// checkRules returns what Check is by the definition.
func checkRules(rules []rule) api.Errno {
	if len(rules) > 16 {
		return api.ErrLong
	}
	for i, r := range rules {
		known := r.Kind == 1 || r.Kind == 2 && r.High <= 400
		if !known || r.Tag < 1 || r.Tag > 63 || r.Low > r.High || i > 0 && r.Tag <= rules[i-1].Tag {
			return api.ErrArg
		}
	}
	return api.OK
}

// bytesOf returns the bytes of a field by the definition.
func bytesOf(kind int, f field) []byte {
	if kind == 1 {
		digits := new(big.Int).SetUint64(f.Num).Bytes()
		return slices.Concat([]byte{byte(f.Tag), byte(len(digits))}, digits)
	}
	n := len(f.Bytes)
	return slices.Concat([]byte{byte(f.Tag), byte(n / 256), byte(n % 256)}, []byte(f.Bytes))
}

// rulesByTag returns the rules by their tags.
func rulesByTag(rules []rule) map[int]rule {
	byTag := map[int]rule{}
	for _, r := range rules {
		byTag[r.Tag] = r
	}
	return byTag
}

// fieldError returns the error of the field at this place of a message.
func fieldError(rules []rule, l []field, at int) api.Errno {
	f := l[at]
	r, found := rulesByTag(rules)[f.Tag]
	amount := f.Num
	if r.Kind == 2 {
		amount = uint64(len(f.Bytes))
	}
	switch {
	case !found, at > 0 && f.Tag <= l[at-1].Tag, r.Kind == 1 && f.Bytes != "", r.Kind == 2 && f.Num != 0:
		return api.ErrArg
	case amount < r.Low, amount > r.High:
		return api.ErrRange
	}
	return api.OK
}

// encode returns what Encode is by the definition.
func encode(rules []rule, l []field) (b []byte, e api.Errno) {
	if e := checkRules(rules); e != api.OK {
		return nil, e
	}
	if len(l) > 16 {
		return nil, api.ErrLong
	}
	byTag, there := rulesByTag(rules), map[int]bool{}
	for i, f := range l {
		if e := fieldError(rules, l, i); e != api.OK {
			return nil, e
		}
		there[f.Tag] = true
		b = append(b, bytesOf(byTag[f.Tag].Kind, f)...)
	}
	for _, r := range rules {
		if r.Must && !there[r.Tag] {
			return nil, api.ErrNone
		}
	}
	return b, api.OK
}

// checkEncode checks what Size and Encode say of a message, and that Decode of its bytes is the message; it returns what Encode does.
func checkEncode(t *testing.T, rules []rule, l []field) ([]byte, api.Errno) {
	t.Helper()
	rulesBefore, before := slices.Clone(rules), slices.Clone(l)
	want, wantErr := encode(rules, l)
	n, e := fields.Size(rules, l)
	if n != len(want) || e != wantErr {
		t.Fatalf("Size of %v, %v is %d, %d, not %d, %d", rules, l, n, e, len(want), wantErr)
	}
	b, e := fields.Encode(rules, l)
	if !bytes.Equal(b, want) || e != wantErr {
		t.Fatalf("Encode of %v, %v is %d, %d, not %d, %d", rules, l, b, e, want, wantErr)
	}
	if e == api.OK {
		if again, at, e := fields.Decode(rules, b); !slices.Equal(again, l) || at != 0 || e != api.OK {
			t.Fatalf("%v, %v is read as %v, %d, %d", rules, l, again, at, e)
		}
	}
	if !slices.Equal(rules, rulesBefore) || !slices.Equal(l, before) {
		t.Fatalf("%v, %v have become %v, %v", rulesBefore, before, rules, l)
	}
	return b, e
}

// wantError checks that Size and Encode return this error.
func wantError(t *testing.T, rules []rule, l []field, want api.Errno) {
	t.Helper()
	if _, e := checkEncode(t, rules, l); e != want {
		t.Errorf("Encode of %v, %v is %d, not %d", rules, l, e, want)
	}
}

// The examples.
func TestExamples(t *testing.T) {
	r := exampleRules()
	for _, x := range []struct {
		l    []field
		want []byte
		e    api.Errno
	}{
		{[]field{ofNumber(1, 258)}, []byte{1, 2, 1, 2}, api.OK},
		{[]field{ofNumber(1, 0), ofBytes(4, "ab")}, []byte{1, 0, 4, 0, 2, 97, 98}, api.OK},
		{[]field{ofNumber(1, 301)}, nil, api.ErrRange},
		{[]field{ofBytes(4, "a")}, nil, api.ErrNone},
		{[]field{ofNumber(2, 0)}, nil, api.ErrArg},
		{nil, nil, api.ErrNone},
	} {
		if b, e := fields.Encode(r, x.l); !bytes.Equal(b, x.want) || e != x.e {
			t.Errorf("Encode of %v is %d, %d", x.l, b, e)
		}
		if n, e := fields.Size(r, x.l); n != len(x.want) || e != x.e {
			t.Errorf("Size of %v is %d, %d", x.l, n, e)
		}
	}
	want := []field{ofNumber(1, 7), ofBytes(4, "a")}
	if l, at, e := fields.Decode(r, []byte{1, 1, 7, 4, 0, 1, 97}); !slices.Equal(l, want) || at != 0 || e != api.OK {
		t.Errorf("Decode is %v, %d, %d", l, at, e)
	}
	for _, x := range []struct {
		b  []byte
		at int
	}{{[]byte{1, 2, 0, 7}, 0}, {[]byte{1, 1, 7, 1, 1, 7}, 3}, {nil, 0}, {[]byte{4, 0, 1, 97}, 0}, {[]byte{1, 1}, 0}, {[]byte{1, 0, 4, 0, 0}, 2}, {[]byte{1, 2, 2, 0}, 0}} {
		if l, at, e := fields.Decode(r, x.b); len(l) > 0 || at != x.at || e != api.ErrMalformed {
			t.Errorf("Decode of %d is %v, %d, %d", x.b, l, at, e)
		}
	}
}

// checkCheck checks what Check says of rules, and that Size, Encode and Decode return its error first.
func checkCheck(t *testing.T, rules []rule, want api.Errno) {
	t.Helper()
	before := slices.Clone(rules)
	if e := fields.Check(rules); e != want || checkRules(rules) != want {
		t.Fatalf("Check of %v is %d, not %d", rules, e, want)
	}
	if !slices.Equal(rules, before) {
		t.Fatalf("%v has become %v", before, rules)
	}
	if want == api.OK {
		return
	}
	for _, l := range [][]field{nil, {ofNumber(1, 0)}, {ofBytes(99, "a")}, make([]field, 17)} {
		wantError(t, rules, l, want)
	}
	for _, b := range [][]byte{nil, {1, 0}, {1, 0, 0}, {99}} {
		if l, at, e := fields.Decode(rules, b); len(l) > 0 || at != 0 || e != want {
			t.Fatalf("Decode with %v is %v, %d, %d, not %d", rules, l, at, e, want)
		}
	}
}

// P8.1: one rule, of all kinds, with its limits.
func TestCheckRule(t *testing.T) {
	amounts := []uint64{0, 1, 2, 399, 400, 401, 402, 65535, math.MaxInt64, math.MaxInt64 + 1, math.MaxUint64}
	for _, tag := range []int{math.MinInt, -1, 0, 1, 2, 62, 63, 64, 65, 127, 255, 256, 257, 319, math.MaxInt} {
		for kind := -1; kind < 5; kind++ {
			for _, low := range amounts {
				for _, high := range amounts {
					r := rule{Tag: tag, Kind: kind, Low: low, High: high, Must: low == 1}
					checkCheck(t, []rule{r}, checkRules([]rule{r}))
				}
			}
		}
	}
	for tag := -1; tag < 300; tag++ {
		want := api.ErrArg
		if 1 <= tag && tag <= 63 {
			want = api.OK
		}
		checkCheck(t, []rule{number(tag, 0, 0, true)}, want)
		checkCheck(t, []rule{text(tag, 400, 400, false)}, want)
	}
	checkCheck(t, []rule{number(1, 0, math.MaxUint64, false)}, api.OK)
	checkCheck(t, []rule{number(1, math.MaxUint64, math.MaxUint64, true)}, api.OK)
	checkCheck(t, []rule{number(1, 2, 1, false)}, api.ErrArg)
	checkCheck(t, []rule{number(1, 1<<63, 1, false)}, api.ErrArg)
	checkCheck(t, []rule{text(1, 0, 400, false)}, api.OK)
	checkCheck(t, []rule{text(1, 0, 401, false)}, api.ErrArg)
	checkCheck(t, []rule{text(1, 400, 399, false)}, api.ErrArg)
	checkCheck(t, []rule{text(1, 0, math.MaxUint64, false)}, api.ErrArg)
	checkCheck(t, []rule{{}}, api.ErrArg)
	checkCheck(t, nil, api.OK)
	checkCheck(t, []rule{}, api.OK)
}

// P8.1: the order of tags, wherever they stand.
func TestCheckOrder(t *testing.T) {
	tags := []int{0, 1, 2, 3, 61, 62, 63, 64}
	for _, a := range tags {
		for _, b := range tags {
			for _, c := range tags {
				want := api.ErrArg
				if 1 <= a && a < b && b < c && c <= 63 {
					want = api.OK
				}
				checkCheck(t, []rule{number(a, 0, 1, false), text(b, 0, 1, false), number(c, 0, 1, true)}, want)
			}
		}
	}
	checkCheck(t, []rule{number(5, 0, 1, false), text(5, 0, 1, false)}, api.ErrArg)
	checkCheck(t, []rule{number(5, 0, 1, false), number(4, 0, 1, false)}, api.ErrArg)
}

// manyRules returns n rules, of tags from first on, of both kinds.
func manyRules(n, first int) []rule {
	var rules []rule
	for i := range n {
		if i%2 == 0 {
			rules = append(rules, number(first+i, 0, 1000, i%3 == 0))
		} else {
			rules = append(rules, text(first+i, 1, 3, i%3 == 0))
		}
	}
	return rules
}

// manyFields returns a field for each rule.
func manyFields(rules []rule) []field {
	var l []field
	for i, r := range rules {
		if r.Kind == api.FdNum {
			l = append(l, ofNumber(r.Tag, uint64(i*60)))
		} else {
			l = append(l, ofBytes(r.Tag, strings.Repeat("x", 1+i%3)))
		}
	}
	return l
}

// P8.1: up to 16 rules, each of which may be none; that there are more comes before.
func TestCheckMany(t *testing.T) {
	for n := range 17 {
		checkCheck(t, manyRules(n, 1), api.OK)
		checkCheck(t, manyRules(n, 64-n), api.OK)
		for i := range n {
			for _, bad := range []rule{{}, number(64, 0, 1, false), number(0, 0, 1, true), text(i+1, 0, 401, true), number(i+1, 1, 0, false), {Tag: i + 1, Kind: 3}} {
				rules := manyRules(n, 1)
				rules[i] = bad
				checkCheck(t, rules, api.ErrArg)
			}
		}
	}
	for _, n := range []int{17, 18, 64, 1000} {
		checkCheck(t, manyRules(n, 1), api.ErrLong)
		checkCheck(t, make([]rule, n), api.ErrLong)
	}
}

// edges returns the numbers around all powers of 2.
func edges() []uint64 {
	l := []uint64{0, math.MaxUint64}
	for k := range 64 {
		l = append(l, 1<<k-1, 1<<k, 1<<k+1)
	}
	return l
}

// P8.2: numbers of all sizes, and limits right at them.
func TestNumbers(t *testing.T) {
	for _, n := range edges() {
		l := []field{ofNumber(9, n)}
		wantError(t, []rule{number(9, 0, math.MaxUint64, true)}, l, api.OK)
		wantError(t, []rule{number(9, n, n, false)}, l, api.OK)
		wantError(t, []rule{number(9, n, math.MaxUint64, false)}, l, api.OK)
		wantError(t, []rule{number(9, 0, n, true)}, l, api.OK)
		if n > 0 {
			wantError(t, []rule{number(9, 0, n-1, true)}, l, api.ErrRange)
		}
		if n < math.MaxUint64 {
			wantError(t, []rule{number(9, n+1, math.MaxUint64, false)}, l, api.ErrRange)
		}
	}
	for n := range uint64(70000) {
		checkEncode(t, []rule{number(63, 0, 66000, true)}, []field{ofNumber(63, n)})
	}
}

// P8.2: bytes of all sizes, and limits right at them; all bytes.
func TestBytes(t *testing.T) {
	for n := range uint64(500) {
		l := []field{ofBytes(63, strings.Repeat("\xffa\x00", 200)[:n])}
		want := api.OK
		if n > 400 {
			want = api.ErrRange
		}
		wantError(t, []rule{text(63, 0, 400, true)}, l, want)
		if n > 400 {
			continue
		}
		wantError(t, []rule{text(63, n, n, false)}, l, api.OK)
		if n > 0 {
			wantError(t, []rule{text(63, 0, n-1, true)}, l, api.ErrRange)
		}
		if n < 400 {
			wantError(t, []rule{text(63, n+1, 400, false)}, l, api.ErrRange)
		}
	}
	for _, n := range []int{401, 65535, 65536, 65537, 65936, 1 << 20} {
		wantError(t, []rule{text(1, 0, 400, false)}, []field{ofBytes(1, strings.Repeat("a", n))}, api.ErrRange)
	}
	for x := range 256 {
		wantError(t, []rule{text(1, 0, 2, false)}, []field{ofBytes(1, string([]byte{byte(x), byte(x)}))}, api.OK)
	}
}

// P8.2: fields for some of the rules, some of which must be there: all ways for six rules.
func TestMust(t *testing.T) {
	rules := manyRules(6, 2)
	all := manyFields(rules)
	for must := range 64 {
		for there := range 64 {
			var l []field
			for i := range rules {
				rules[i].Must = must>>i&1 == 1
				if there>>i&1 == 1 {
					l = append(l, all[i])
				}
			}
			want := api.OK
			if must&^there != 0 {
				want = api.ErrNone
			}
			wantError(t, rules, l, want)
		}
	}
}

// P8.2: up to 16 fields; that there are more comes before the errors of fields.
func TestManyFields(t *testing.T) {
	for n := range 17 {
		rules := manyRules(n, 64-n)
		wantError(t, rules, manyFields(rules), api.OK)
	}
	rules := manyRules(16, 1)
	for _, n := range []int{17, 18, 100} {
		wantError(t, rules, manyFields(manyRules(n, 1)), api.ErrLong)
		wantError(t, rules, make([]field, n), api.ErrLong)
		wantError(t, nil, make([]field, n), api.ErrLong)
	}
	wantError(t, nil, make([]field, 16), api.ErrArg)
	wantError(t, nil, nil, api.OK)
	wantError(t, []rule{}, []field{}, api.OK)
}

// badFields returns fields with all errors that those of exampleRules may have, some with several, and fields without one.
func badFields() []field {
	return []field{
		ofNumber(1, 0), ofNumber(1, 300), ofNumber(1, 301), ofNumber(1, math.MaxUint64), ofBytes(1, "a"), {Tag: 1, Num: 5, Bytes: "a"}, {Tag: 1, Num: 301, Bytes: "a"},
		ofBytes(4, "a"), ofBytes(4, "abc"), ofBytes(4, ""), ofBytes(4, "abcd"), {Tag: 4, Num: 1, Bytes: "a"}, {Tag: 4, Num: 1, Bytes: "abcd"}, ofNumber(4, 1),
		ofNumber(0, 0), ofNumber(2, 0), ofBytes(3, "a"), ofBytes(5, "a"), ofNumber(-1, 0), ofNumber(64, 0), ofNumber(257, 0), ofBytes(260, "a"), ofNumber(math.MinInt, 0), ofNumber(math.MaxInt, 0), {},
	}
}

// P8.2: the error of the first field that has one, and of this the first one: all lists of up to three fields.
func TestFieldErrors(t *testing.T) {
	rules := exampleRules()
	for _, a := range badFields() {
		checkEncode(t, rules, []field{a})
		for _, b := range badFields() {
			checkEncode(t, rules, []field{a, b})
			for _, c := range badFields() {
				checkEncode(t, rules, []field{a, b, c})
			}
		}
	}
	for _, x := range []struct {
		l []field
		e api.Errno
	}{
		{[]field{ofNumber(1, 301), ofNumber(2, 0)}, api.ErrRange},
		{[]field{ofNumber(1, 3), ofNumber(2, 0), ofBytes(4, "")}, api.ErrArg},
		{[]field{ofBytes(4, "abcd")}, api.ErrRange},
		{[]field{ofBytes(4, "abc"), ofNumber(1, 3)}, api.ErrArg},
		{[]field{ofBytes(4, "abc"), ofNumber(1, 301)}, api.ErrArg},
		{[]field{ofNumber(1, 3), ofNumber(1, 3)}, api.ErrArg},
		{[]field{{Tag: 1, Num: 301, Bytes: "a"}}, api.ErrArg},
		{[]field{{Tag: 4, Num: 1, Bytes: "abcd"}}, api.ErrArg},
		{[]field{ofBytes(1, "a")}, api.ErrArg},
		{[]field{ofNumber(1, 3), ofNumber(4, 2)}, api.ErrArg},
		{[]field{ofNumber(1, 3), ofNumber(4, 0)}, api.ErrRange},
	} {
		wantError(t, rules, x.l, x.e)
	}
}

// P8.4: the first field with a tag, in all lists of up to four fields of three tags, and in lists that are no messages.
func TestFind(t *testing.T) {
	for n := range 256 {
		var l []field
		for ; n > 0; n /= 4 {
			if n%4 > 0 {
				l = append(l, field{Tag: n % 4, Num: uint64(n), Bytes: "x"})
			}
		}
		for tag := range 5 {
			checkFind(t, l, tag)
		}
	}
	odd := append(badFields(), badFields()...)
	for i := range odd {
		odd[i].Bytes += "x"
		odd[i].Num += uint64(i)
	}
	for _, f := range append(odd, ofNumber(63, 0), ofNumber(100, 0)) {
		for k := range odd {
			checkFind(t, odd[k:], f.Tag)
		}
	}
	checkFind(t, nil, 0)
	checkFind(t, []field{}, 1)
}

// checkFind checks Find.
func checkFind(t *testing.T, l []field, tag int) {
	t.Helper()
	var want field
	at := slices.IndexFunc(l, func(f field) bool { return f.Tag == tag })
	if at >= 0 {
		want = l[at]
	}
	before := slices.Clone(l)
	if f, found := fields.Find(l, tag); f != want || found != (at >= 0) {
		t.Fatalf("Find of %d in %v is %v, %t", tag, l, f, found)
	}
	if !slices.Equal(l, before) {
		t.Fatalf("%v has become %v", before, l)
	}
}
