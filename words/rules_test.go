package words_test

import (
	"math"
	"slices"
	"strings"
	"testing"

	"groundling/api"
	"groundling/words"
)

// P1, P1.8: functions accept any arguments, with no value beside an error, and return the same again.
func TestAnyArguments(t *testing.T) {
	strange := []string{"", "\x00", "\xff\xfe", "\n", "-", "\"", "\\", "\"\\", "\"\\x", "\"\\xf", "\"\\xff", ",", "-,-", "0", "-0", "1-", " ", allBytes(), quoted(allBytes()), strings.Repeat("\"", 100_000), strings.Repeat("-", 100_000), strings.Repeat("9", 100_000), strings.Repeat("1,", 100_000), strings.Repeat("\\", 8192), strings.Repeat("\"\" ", 2730)}
	for _, s := range strange {
		if words.Name(s) != words.Name(s) {
			t.Errorf("Name(%.30q) differs", s)
		}
		if n, e := words.Int(s, math.MinInt64, math.MaxInt64); e != api.OK && n != 0 {
			t.Errorf("Int(%.30q) is %d, %d", s, n, e)
		}
		if words.Quote(s) != words.Quote(s) {
			t.Errorf("Quote(%.30q) differs", s)
		}
		if text, e := words.Unquote(s); e != api.OK && text != "" {
			t.Errorf("Unquote(%.30q) is %.30q, %d", s, text, e)
		}
		l, e := words.Split(s)
		if e != api.OK && len(l) > 0 {
			t.Errorf("Split(%.30q) is %d fields, %d", s, len(l), e)
		}
		if again, e2 := words.Split(s); !slices.Equal(l, again) || e != e2 {
			t.Errorf("Split(%.30q) differs", s)
		}
		if l, e := words.Lines(s); e != api.OK && len(l) > 0 {
			t.Errorf("Lines(%.30q) is %d lines, %d", s, len(l), e)
		}
		if l, e := words.ParseList(s); e != api.OK && len(l) > 0 {
			t.Errorf("ParseList(%.30q) is %d integers, %d", s, len(l), e)
		}
		if line, e := words.Join([]api.Field{{S: s}, {S: s, Quoted: true}}); e != api.OK && line != "" {
			t.Errorf("Join(%.30q) is %.30q, %d", s, line, e)
		}
	}
}

// R3: results are new memory: what is written to one is in no other one.
func TestFreshMemory(t *testing.T) {
	for range 2 {
		fields, _ := words.Split("a \"b\"")
		if !slices.Equal(fields, []api.Field{{S: "a"}, {S: "b", Quoted: true}}) {
			t.Errorf("Split is %s", show(fields))
		}
		fields[0], fields[1] = api.Field{S: "x"}, api.Field{}
		_ = append(fields[:1], api.Field{S: "y"})

		lines, _ := words.Lines("a\nb\n")
		if !slices.Equal(lines, []string{"a", "b"}) {
			t.Errorf("Lines is %q", lines)
		}
		lines[0], lines[1] = "x", "y"

		list, _ := words.ParseList("1-2,5")
		if !slices.Equal(list, []int{1, 2, 5}) {
			t.Errorf("ParseList is %v", list)
		}
		list[0], list[2] = 7, 8
	}
}

// R6: calls at the same time do not touch each other.
func TestCallsAtOnce(t *testing.T) {
	done := make(chan bool)
	for i := range 8 {
		go func() {
			ok := true
			for n := int64(i); n < 2000; n++ {
				s := words.Digits(n)
				q, e := words.Unquote(words.Quote("\n" + s))
				l, e2 := words.Split(s + " \"" + s + "\"")
				k, e3 := words.ParseList(s)
				ok = ok && q == "\n"+s && e == api.OK && slices.Equal(l, []api.Field{{S: s}, {S: s, Quoted: true}}) && e2 == api.OK && slices.Equal(k, []int{int(n)}) && e3 == api.OK
			}
			done <- ok
		}()
	}
	for range 8 {
		if !<-done {
			t.Error("a call at the same time as others has another result")
		}
	}
}
