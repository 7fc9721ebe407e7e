package fields_test

import (
	"bytes"
	"math"
	"slices"
	"testing"

	"groundling/api"
	"groundling/fields"
)

// overwrite writes into all of the memory of b, also behind it.
func overwrite(b []byte) {
	b = b[:cap(b)]
	for i := range b {
		b[i] ^= 0xff
	}
}

// P8.8 and R3: what Encode and Decode return is new memory; what stands behind the arguments stays.
func TestNewMemory(t *testing.T) {
	rules := exampleRules()
	l := []field{ofNumber(1, 258), ofBytes(4, "abc"), ofNumber(9, 9)}[:2]
	want := []byte{1, 2, 1, 2, 4, 0, 3, 97, 98, 99}
	first, _ := fields.Encode(rules, l)
	second, _ := fields.Encode(rules, l)
	overwrite(first)
	if !bytes.Equal(second, want) || l[1].Bytes != "abc" {
		t.Errorf("with the bytes of a message %d or %v have changed", second, l)
	}
	b := append(bytes.Clone(want), "left alone"...)[:len(want)]
	one, _, _ := fields.Decode(rules, b)
	other, _, _ := fields.Decode(rules, b)
	one[0].Num, one[1] = 7, field{}
	_ = append(one, ofNumber(5, 5))
	if !slices.Equal(other, l) || !bytes.Equal(b, want) || string(b[:len(b)+10][len(b):]) != "left alone" {
		t.Errorf("with a message %v or %d have changed", other, b[:cap(b)])
	}
	overwrite(b)
	if !slices.Equal(other, l) {
		t.Errorf("with its bytes a message has become %v", other)
	}
	if again, _ := fields.Encode(rules, l); !bytes.Equal(again, want) || l[:3][2] != ofNumber(9, 9) {
		t.Errorf("Encode is %d, %v", again, l[:3])
	}
}

// strange returns numbers of all sorts.
func (s *source) strange() uint64 {
	return []uint64{0, 1, 2, 63, 64, 399, 400, 401, math.MaxInt64, 1 << 63, math.MaxUint64, s.next(), uint64(s.below(70))}[s.below(13)]
}

// P8.8 and R1: any arguments are accepted, those too that are no rules, no messages, and not their bytes.
func TestAnyArguments(t *testing.T) {
	s := source(5)
	for range 30000 {
		rules := s.rules(4)
		if s.below(3) == 0 {
			rules = append(rules, rule{Tag: int(s.strange()), Kind: int(s.strange()), Low: s.strange(), High: s.strange(), Must: s.below(2) == 0})
		}
		l := s.message(s.rules(4))
		if s.below(3) == 0 {
			l = s.message(rules[:len(rules)/2])
		}
		for range s.below(3) {
			l = append(l, field{Tag: int(s.strange()), Num: s.strange(), Bytes: "abc"[:s.below(4)]})
		}
		b := make([]byte, s.below(30))
		for i := range b {
			b[i] = byte(s.next() >> s.below(60))
			if s.below(2) == 0 {
				b[i] = byte(s.below(4))
			}
		}
		if e := fields.Check(rules); e != checkRules(rules) {
			t.Fatalf("Check of %v is %d", rules, e)
		}
		checkEncode(t, rules, l)
		checkDecode(t, rules, b)
		checkFind(t, l, int(s.strange()))
	}
}

// R4: nil and empty lists are the same.
func TestEmptyLists(t *testing.T) {
	optional := []rule{number(1, 0, 1, false)}
	for _, rules := range [][]rule{nil, {}, optional} {
		for _, l := range [][]field{nil, {}} {
			wantError(t, rules, l, api.OK)
		}
		for _, b := range [][]byte{nil, {}} {
			wantFields(t, rules, b)
		}
	}
}

// R6: calls at the same time do not touch each other, even with the same arguments.
func TestCallsAtOnce(t *testing.T) {
	rules := []rule{number(1, 0, math.MaxUint64, true), text(4, 1, 300, false)}
	l := []field{ofNumber(1, 1<<40), ofBytes(4, "abc")}
	want, _ := encode(rules, l)
	done := make(chan bool)
	for range 8 {
		go func() {
			ok := true
			for range 2000 {
				n, e := fields.Size(rules, l)
				b, e2 := fields.Encode(rules, l)
				again, at, e3 := fields.Decode(rules, want)
				f, found := fields.Find(l, 4)
				_, cut, e4 := fields.Decode(rules, want[:len(want)-1])
				ok = ok && n == len(want) && bytes.Equal(b, want) && slices.Equal(again, l) && at == 0 && f == l[1] && found && cut == 8 && e4 == api.ErrMalformed && e+e2+e3 == api.OK
			}
			done <- ok
		}()
	}
	for range 8 {
		if !<-done {
			t.Error("a call at the same time as others has another result")
		}
	}
}
