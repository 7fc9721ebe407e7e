package fields_test

import (
	"bytes"
	"math"
	"math/big"
	"slices"
	"strings"
	"testing"

	"groundling/api"
	"groundling/fields"
)

// source gives numbers that look like random ones, the same ones in each run.
type source uint64

func (s *source) next() uint64 {
	*s ^= *s << 13
	*s ^= *s >> 7
	*s ^= *s << 17
	return uint64(*s)
}

func (s *source) below(n int) int { return int(s.next() >> 1 % uint64(n)) }

// readField returns the field of one of the rules whose bytes b begins with, and how many these are (0: there is none): it tries all sizes.
func readField(rules []rule, b []byte) (field, int) {
	r, found := rulesByTag(rules)[int(b[0])]
	if !found {
		return field{}, 0
	}
	head, sizes := 2, 8
	if r.Kind == api.FdBytes {
		head, sizes = 3, 400
	}
	for n := range sizes + 1 {
		if head+n > len(b) {
			break
		}
		body := b[head : head+n]
		f, amount := ofBytes(r.Tag, string(body)), uint64(n)
		if r.Kind == api.FdNum {
			amount = new(big.Int).SetBytes(body).Uint64()
			f = ofNumber(r.Tag, amount)
		}
		if bytes.Equal(bytesOf(r.Kind, f), b[:head+n]) && r.Low <= amount && amount <= r.High {
			return f, head + n
		}
	}
	return field{}, 0
}

// decode returns what Decode is by the definition.
func decode(rules []rule, b []byte) (l []field, at int, e api.Errno) {
	if e := checkRules(rules); e != api.OK {
		return nil, 0, e
	}
	left := map[int]bool{}
	for _, r := range rules {
		left[r.Tag] = r.Must
	}
	last := 0
	for at < len(b) {
		f, size := readField(rules, b[at:])
		missing := false
		for tag := range f.Tag {
			missing = missing || left[tag]
		}
		if size == 0 || f.Tag <= last || missing {
			return nil, at, api.ErrMalformed
		}
		left[f.Tag] = false
		l, last, at = append(l, f), f.Tag, at+size
	}
	for _, must := range left {
		if must {
			return nil, len(b), api.ErrMalformed
		}
	}
	return l, 0, api.OK
}

// checkDecode checks what Decode says of bytes, and that Encode of what it returns is the bytes.
func checkDecode(t *testing.T, rules []rule, b []byte) ([]field, int, api.Errno) {
	t.Helper()
	rulesBefore, before := slices.Clone(rules), bytes.Clone(b)
	want, wantAt, wantErr := decode(rules, b)
	l, at, e := fields.Decode(rules, b)
	if !slices.Equal(l, want) || at != wantAt || e != wantErr {
		t.Fatalf("Decode of %v, %d is %v, %d, %d, not %v, %d, %d", rules, b, l, at, e, want, wantAt, wantErr)
	}
	if e == api.OK {
		if again, e := fields.Encode(rules, l); !bytes.Equal(again, b) || e != api.OK {
			t.Fatalf("%v, %d is read as %v, which has the bytes %d, %d", rules, b, l, again, e)
		}
	}
	if !slices.Equal(rules, rulesBefore) || !bytes.Equal(b, before) {
		t.Fatalf("%v, %d have become %v, %d", rulesBefore, before, rules, b)
	}
	return l, at, e
}

// wantMalformed checks that the field that begins there cannot be read.
func wantMalformed(t *testing.T, rules []rule, b []byte, want int) {
	t.Helper()
	if l, at, e := checkDecode(t, rules, b); at != want || e != api.ErrMalformed {
		t.Errorf("Decode of %v, %d is %v, %d, %d, not %d", rules, b, l, at, e, want)
	}
}

// wantFields checks that the bytes are those of the message.
func wantFields(t *testing.T, rules []rule, b []byte, want ...field) {
	t.Helper()
	if l, at, e := checkDecode(t, rules, b); !slices.Equal(l, want) || e != api.OK {
		t.Errorf("Decode of %v, %d is %v, %d, %d, not %v", rules, b, l, at, e, want)
	}
}

// reasonRules are rules with all sorts of limits, so that a field of theirs can fail for each reason.
func reasonRules() []rule {
	return []rule{number(1, 0, 300, false), number(2, 5, math.MaxUint64, false), text(4, 1, 3, false), text(6, 0, 400, false), number(7, 0, 255, true), text(8, 0, 1, false)}
}

// P8.3: each reason why a field cannot be read, by itself, after none and after one field; what comes after it makes no difference.
func TestDecodeReasons(t *testing.T) {
	for _, x := range []struct {
		why string
		b   []byte
	}{
		{"no rule has the tag 0", []byte{0, 0}},
		{"no rule has the tag 3", []byte{3, 0}},
		{"no rule has the tag 9", []byte{9, 1, 7, 7, 0}},
		{"no rule has the tag 255", []byte{255, 0, 0}},
		{"a number has nine bytes", []byte{2, 9, 1, 0, 0, 0, 0, 0, 0, 0, 0}},
		{"a number has nine bytes, the first one 0", []byte{2, 9, 0, 1, 0, 0, 0, 0, 0, 0, 0}},
		{"a number has 255 bytes", slices.Concat([]byte{2, 255, 1}, make([]byte, 254))},
		{"a number has eight bytes, the first one 0", []byte{2, 8, 0, 1, 0, 0, 0, 0, 0, 0}},
		{"0 has a byte", []byte{7, 1, 0}},
		{"the first byte is 0", []byte{7, 2, 0, 7}},
		{"a number is below its range", []byte{2, 1, 4}},
		{"a number of no bytes is below its range", []byte{2, 0}},
		{"a number is above its range", []byte{7, 2, 1, 0}},
		{"there are too few bytes", []byte{4, 0, 0}},
		{"there are too many bytes", []byte{4, 0, 4, 97, 97, 97, 97}},
		{"there are 256 more bytes than 2", slices.Concat([]byte{4, 1, 2}, make([]byte, 258))},
		{"there are 401 bytes", slices.Concat([]byte{6, 1, 145}, make([]byte, 401))},
		{"the field 7 is missing before 8", []byte{8, 0, 0}},
	} {
		t.Run(x.why, func(t *testing.T) {
			for _, before := range [][]byte{nil, {1, 0}, {1, 2, 1, 44}} {
				for _, after := range [][]byte{nil, {7, 1, 7}, {7, 0, 8, 0, 0}, {99}} {
					wantMalformed(t, reasonRules(), slices.Concat(before, x.b, after), len(before))
				}
			}
		})
	}
}

// P8.3: fewer bytes than a field needs, after none and after one field.
func TestDecodeCut(t *testing.T) {
	for _, b := range [][]byte{{2}, {4}, {4, 0}, {2, 2, 5}, {2, 8, 1, 2, 3, 4, 5, 6, 7}, {2, 255}, {4, 0, 2, 97}, {4, 0, 1}, {4, 255, 255}, {6, 1, 44}, {7}, {8, 0, 1}} {
		for _, before := range [][]byte{nil, {1, 0}, {1, 2, 1, 44}} {
			wantMalformed(t, reasonRules(), slices.Concat(before, b), len(before))
		}
	}
}

// P8.3: tags that do not ascend, fields that are missing at the end, and messages.
func TestDecodeOrder(t *testing.T) {
	rules := reasonRules()
	for _, b := range [][]byte{nil, {1, 1, 9}, {1, 1, 9, 4, 0, 1, 7}, {6, 0, 0}} {
		wantMalformed(t, rules, b, len(b))
	}
	for _, b := range [][]byte{{7, 0, 7, 0}, {7, 0, 1, 0}, {7, 0, 6, 0, 0}, {7, 0, 6, 0, 0, 8, 0, 0}} {
		wantMalformed(t, rules, b, 2)
	}
	wantMalformed(t, rules, []byte{7, 0, 8, 0, 1, 8, 8, 0, 0}, 6)
	wantFields(t, rules, []byte{7, 0}, ofNumber(7, 0))
	wantFields(t, rules, []byte{7, 0, 8, 0, 1, 7}, ofNumber(7, 0), ofBytes(8, "\x07"))
	wantFields(t, rules, []byte{1, 2, 1, 44, 2, 8, 255, 0, 0, 0, 0, 0, 0, 1, 4, 0, 3, 0, 0, 0, 7, 1, 255}, ofNumber(1, 300), ofNumber(2, 255<<56+1), ofBytes(4, "\x00\x00\x00"), ofNumber(7, 255))
	wantFields(t, nil, nil)
	wantMalformed(t, nil, []byte{1}, 0)
}

// P8.3: numbers of 0 to 255 bytes, with all first ones, and too few bytes, right and too many.
func TestDecodeNumbers(t *testing.T) {
	rules := []rule{number(5, 0, math.MaxUint64, true), number(6, 200, 1<<40, false)}
	for width := range 256 {
		for _, first := range []byte{0, 1, 127, 128, 255} {
			body := make([]byte, width+1)
			body[0], body[width] = first, 1
			b := slices.Concat([]byte{5, byte(width)}, body)
			checkDecode(t, rules, b[:2+width])
			checkDecode(t, rules, b)
			if width > 0 {
				wantMalformed(t, rules, b[:1+width], 0)
			}
			b[0] = 6
			checkDecode(t, rules, slices.Concat([]byte{5, 0}, b[:2+width]))
			checkDecode(t, rules, slices.Concat([]byte{5, 1, 9}, b))
		}
	}
	for _, n := range edges() {
		b := bytesOf(api.FdNum, ofNumber(5, n))
		wantFields(t, rules, b, ofNumber(5, n))
		wantFields(t, []rule{number(5, n, n, true)}, b, ofNumber(5, n))
		if n > 0 {
			wantMalformed(t, []rule{number(5, 0, n-1, false)}, b, 0)
		}
		if n < math.MaxUint64 {
			wantMalformed(t, []rule{number(5, n+1, math.MaxUint64, false)}, b, 0)
		}
	}
	for x := range 256 {
		for y := range 256 {
			checkDecode(t, rules, []byte{5, 1, byte(x), 6, 1, byte(y)})
			checkDecode(t, rules, []byte{5, 2, byte(x), byte(y)})
			checkDecode(t, rules, []byte{5, byte(x), byte(y), 1, 6, 2, 1, 1})
		}
	}
}

// P8.3: bytes of all sizes, with fewer and more of them.
func TestDecodeBytes(t *testing.T) {
	rules := []rule{text(5, 0, 400, true), text(6, 2, 300, false)}
	for n := range 450 {
		for _, tag := range []byte{5, 6} {
			field := slices.Concat([]byte{tag, byte(n / 256), byte(n % 256)}, bytes.Repeat([]byte{byte(n)}, n+1))
			for _, before := range [][]byte{nil, {5, 0, 1, 9}} {
				b := slices.Concat(before, field)
				checkDecode(t, rules, b)
				checkDecode(t, rules, b[:len(b)-1])
				checkDecode(t, rules, b[:len(b)-2])
			}
		}
	}
	for _, n := range []int{512, 1024, 65279, 65535} {
		b := slices.Concat([]byte{5, byte(n / 256), byte(n % 256)}, make([]byte, n))
		for _, k := range []int{3, 3 + n%256, 100, len(b)} {
			wantMalformed(t, rules, b[:min(k, len(b))], 0)
		}
	}
}

// allMessages returns all messages of these rules, with the bytes of a few values.
func allMessages(rules []rule) [][]field {
	all := [][]field{nil}
	for _, r := range rules {
		var longer [][]field
		for _, f := range allFields(r) {
			for _, l := range all {
				longer = append(longer, append(slices.Clone(l), f))
			}
		}
		if !r.Must {
			longer = append(longer, all...)
		}
		all = longer
	}
	return all
}

// allFields returns all fields of a rule, whose bytes are from 0 to 4, with up to 3 of them.
func allFields(r rule) []field {
	var l []field
	for n := r.Low; n <= min(r.High, 5); n++ {
		if r.Kind == api.FdNum {
			l = append(l, ofNumber(r.Tag, n))
			continue
		}
		texts := []string{""}
		for range n {
			var longer []string
			for _, s := range texts {
				for c := range 5 {
					longer = append(longer, s+string(rune(c)))
				}
			}
			texts = longer
		}
		for _, s := range texts {
			l = append(l, ofBytes(r.Tag, s))
		}
	}
	return l
}

// P8.3 and P8.5: of all short strings of bytes, those are read that are the bytes of a message, with the one that they are of.
func TestShortBytes(t *testing.T) {
	for _, rules := range [][]rule{
		{number(1, 0, 4, true), text(2, 0, 1, false)},
		{number(1, 1, 2, false), number(2, 0, 3, false), number(3, 2, 4, true)},
		{text(1, 1, 2, false), text(2, 0, 3, true)},
		{text(1, 0, 0, true), number(3, 0, 0, false), number(4, 4, 4, false)},
		{text(3, 0, 3, false)}, {number(4, 0, 4, false)}, {},
	} {
		messages := map[string][]field{}
		for _, l := range allMessages(rules) {
			b, e := checkEncode(t, rules, l)
			if other, twice := messages[string(b)]; twice || e != api.OK {
				t.Fatalf("%v and %v have the bytes %d, %d", l, other, b, e)
			}
			messages[string(b)] = l
		}
		all := [][]byte{nil}
		for len(all) > 0 {
			b := all[len(all)-1]
			all = all[:len(all)-1]
			l, _, e := checkDecode(t, rules, b)
			if want, is := messages[string(b)]; is != (e == api.OK) || !slices.Equal(l, want) {
				t.Fatalf("with %v, %d is read as %v, %d, not %v", rules, b, l, e, want)
			}
			for x := byte(0); x < 5 && len(b) < 7; x++ {
				all = append(all, append(bytes.Clone(b), x))
			}
		}
	}
}

// rules returns rules, up to many, with all sorts of limits.
func (s *source) rules(many int) []rule {
	var rules []rule
	tag := 0
	for range s.below(many + 1) {
		tag += 1 + s.below(3)
		r := number(tag, s.next()>>s.below(64), s.next()>>s.below(64), s.below(3) == 0)
		if s.below(2) == 0 {
			r = text(tag, uint64(s.below(20)), uint64(s.below(20)), r.Must)
		}
		if s.below(3) == 0 {
			r.Low = 0
		}
		if r.Low > r.High {
			r.Low, r.High = r.High, r.Low
		}
		rules = append(rules, r)
	}
	return rules
}

// message returns a message of these rules.
func (s *source) message(rules []rule) []field {
	var l []field
	for _, r := range rules {
		n := []uint64{r.Low, r.High, r.Low + s.next()%max(r.High-r.Low, 1)}[s.below(3)]
		switch {
		case !r.Must && s.below(2) == 0:
		case r.Kind == api.FdNum:
			l = append(l, ofNumber(r.Tag, n))
		default:
			l = append(l, ofBytes(r.Tag, strings.Repeat(string(rune(s.below(100))), int(n))))
		}
	}
	return l
}

// spoil returns bytes that differ from b in a little.
func (s *source) spoil(b []byte) []byte {
	at := s.below(len(b) + 1)
	switch s.below(3) {
	case 0:
		return slices.Insert(bytes.Clone(b), at, []byte{0, 1, byte(s.next())}[s.below(3)])
	case 1:
		return slices.Delete(bytes.Clone(b), at, min(at+1, len(b)))
	}
	b = bytes.Clone(b)
	if at < len(b) {
		b[at] ^= 1 << s.below(8)
	}
	return b
}

// P8.2, P8.3 and P8.5: messages of all sorts of rules, and bytes that differ from theirs.
func TestMessages(t *testing.T) {
	s := source(1)
	for range 20000 {
		rules := s.rules(8)
		b, e := checkEncode(t, rules, s.message(rules))
		if e != api.OK {
			t.Fatalf("a message of %v has the error %d", rules, e)
		}
		checkDecode(t, rules, b)
		for range 5 {
			checkDecode(t, rules, s.spoil(b))
			checkDecode(t, s.rules(8), b)
		}
	}
	for range 300 {
		rules := s.rules(16)
		checkEncode(t, rules, s.message(rules))
	}
}

// P8.3: each byte of the bytes of messages as any other.
func TestEachByte(t *testing.T) {
	s := source(2)
	for range 100 {
		rules := s.rules(6)
		b, _ := checkEncode(t, rules, s.message(rules))
		for i := range b {
			for x := range 256 {
				spoilt := bytes.Clone(b)
				spoilt[i] = byte(x)
				checkDecode(t, rules, spoilt)
			}
		}
	}
}

// P8.6: what is read of a beginning of the bytes of a message is its first fields.
func TestBeginnings(t *testing.T) {
	s := source(3)
	read := 0
	for range 3000 {
		rules := s.rules(8)
		l := s.message(rules)
		b, _ := checkEncode(t, rules, l)
		for k := range b {
			first, at, e := checkDecode(t, rules, b[:k])
			if e == api.OK {
				read++
			}
			if e == api.OK && (len(first) >= len(l) || !slices.Equal(first, l[:len(first)])) || at > k {
				t.Fatalf("of %v, %d bytes are read as %v, %d, %d", l, k, first, at, e)
			}
		}
	}
	if read < 1000 {
		t.Errorf("only %d beginnings were read", read)
	}
}

// less returns rules that allow less.
func (s *source) less(rules []rule) []rule {
	var l []rule
	for _, r := range rules {
		switch middle := r.Low + (r.High-r.Low)/2; s.below(8) {
		case 0:
			continue
		case 1:
			r.Low = middle
		case 2:
			r.High = middle
		case 3:
			r.Must = true
		case 4:
			r.Low = r.High
		}
		l = append(l, r)
	}
	return l
}

// P8.7: with rules that allow less, the same is read, or nothing.
func TestLess(t *testing.T) {
	s := source(4)
	same := 0
	for range 20000 {
		rules := s.rules(5)
		b, _ := checkEncode(t, rules, s.message(rules))
		l, _, e := checkDecode(t, rules, b)
		narrow, _, narrowErr := checkDecode(t, s.less(rules), b)
		if e != api.OK || narrowErr != api.ErrMalformed && (narrowErr != api.OK || !slices.Equal(narrow, l)) {
			t.Fatalf("%d is read as %v, %d, and with less as %v, %d", b, l, e, narrow, narrowErr)
		}
		if narrowErr == api.OK {
			same++
		}
	}
	if same < 1000 {
		t.Errorf("only %d messages were read with less", same)
	}
}
