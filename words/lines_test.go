package words_test

import (
	"fmt"
	"slices"
	"strings"
	"testing"

	"groundling/api"
	"groundling/words"
)

// written is a field as it is written, by the definition; a bare one that may not be written is empty.
func written(f api.Field) string {
	if f.Quoted {
		return quoted(f.S)
	}
	for i := range len(f.S) {
		if c := f.S[i]; c < 33 || c > 126 || c == '"' || c == '\\' {
			return ""
		}
	}
	return f.S
}

// wantJoin is Join by its definition.
func wantJoin(l []api.Field) (string, api.Errno) {
	var pieces []string
	long, form := len(l) > 64, false
	for _, f := range l {
		long = long || len(f.S) > 2000
		form = form || written(f) == ""
		pieces = append(pieces, written(f))
	}
	line := strings.Join(pieces, " ")
	switch {
	case long:
		return "", api.ErrLong
	case form:
		return "", api.ErrForm
	case len(line) > 8192:
		return "", api.ErrLong
	}
	return line, api.OK
}

func checkJoin(t *testing.T, l []api.Field) {
	t.Helper()
	before := slices.Clone(l)
	line, e := words.Join(l)
	if want, wantE := wantJoin(l); line != want || e != wantE {
		t.Errorf("Join(%s) is %.60q, %d, not %.60q, %d", show(l), line, e, want, wantE)
	}
	if !slices.Equal(l, before) {
		t.Errorf("Join changes %s", show(before))
	}
	if e != api.OK {
		return
	}
	if got, e := words.Split(line); !slices.Equal(got, l) || e != api.OK {
		t.Errorf("Split(%.60q) is %s, %d, not %s", line, show(got), e, show(l))
	}
}

// show prints fields, shortened.
func show(l []api.Field) string {
	return fmt.Sprintf("%.200s", fmt.Sprintf("%+v", l))
}

func bare(s string) api.Field { return api.Field{S: s} }

func inQuotes(s string) api.Field { return api.Field{S: s, Quoted: true} }

func many(n int, f api.Field) []api.Field { return slices.Repeat([]api.Field{f}, n) }

// P1.3, P1.4 and P1.7: each byte, in a bare field and in a quoted one.
func TestFieldBytes(t *testing.T) {
	for c := range 256 {
		b := string([]byte{byte(c)})
		for _, s := range []string{b, b + "a", "a" + b, "a" + b + "a"} {
			checkJoin(t, []api.Field{bare(s)})
			checkJoin(t, []api.Field{inQuotes(s)})
			checkJoin(t, []api.Field{bare("x"), inQuotes(s), bare("y"), inQuotes("")})
			checkJoin(t, []api.Field{inQuotes("x"), bare(s), inQuotes("y")})
		}
		between := "a" + b + "b"
		l, e := words.Split(between)
		if b == " " && (len(l) != 2 || e != api.OK) || b != " " && written(bare(b)) == "" && (len(l) != 0 || e != api.ErrForm) {
			t.Errorf("Split(%q) is %s, %d", between, show(l), e)
		}
	}
	checkJoin(t, nil)
	checkJoin(t, []api.Field{})
	checkJoin(t, []api.Field{bare("")})
	checkJoin(t, []api.Field{bare("a"), bare("")})
	checkJoin(t, []api.Field{inQuotes("")})
	checkJoin(t, []api.Field{bare("get"), bare("/"), inQuotes("a b")})
	checkJoin(t, []api.Field{inQuotes(allBytes())})
}

// shortLines returns all lines of at most most bytes of the alphabet, made of fields by the definition.
func shortLines(alphabet string, most int) map[string][]api.Field {
	var fields []api.Field
	each(alphabet+"\n", most, func(s string) {
		for _, f := range []api.Field{bare(s), inQuotes(s)} {
			if w := written(f); w != "" && len(w) <= most && strings.Trim(w, alphabet) == "" {
				fields = append(fields, f)
			}
		}
	})
	lines := map[string][]api.Field{"": nil}
	last := map[string][]api.Field{}
	for _, f := range fields {
		last[written(f)] = []api.Field{f}
	}
	for len(last) > 0 {
		next := map[string][]api.Field{}
		for line, l := range last {
			lines[line] = l
			for _, f := range fields {
				if longer := line + " " + written(f); len(longer) <= most {
					next[longer] = append(slices.Clone(l), f)
				}
			}
		}
		last = next
	}
	return lines
}

// P1.3 and P1.7: of all short strings exactly the lines are split, into the fields that they were made of.
func TestSplitShort(t *testing.T) {
	const alphabet = "an \"\\"
	lines := shortLines(alphabet, 6)
	each(alphabet, 6, func(s string) {
		l, e := words.Split(s)
		want, ok := lines[s]
		if ok && (e != api.OK || !slices.Equal(l, want)) || !ok && (e != api.ErrForm || len(l) > 0) {
			t.Fatalf("Split(%q) is %s, %d", s, show(l), e)
		}
		if !ok {
			return
		}
		if line, e := words.Join(l); line != s || e != api.OK {
			t.Fatalf("Join of Split(%q) is %q, %d", s, line, e)
		}
	})
}

func line(pieces ...string) string { return strings.Join(pieces, " ") }

// P1.3: the limits, one byte or field on both sides, and which error is first.
func TestSplitLimits(t *testing.T) {
	a := func(n int) string { return strings.Repeat("a", n) }
	zeros := func(n int) string { return `"` + strings.Repeat(`\x00`, n) + `"` }
	for i, x := range []struct {
		line string
		n    int
		want api.Errno
	}{
		{a(2000), 1, api.OK},
		{a(2001), 0, api.ErrLong},
		{line("a", a(2001), "b"), 0, api.ErrLong},
		{`"` + a(2000) + `"`, 1, api.OK},
		{`"` + a(2001) + `"`, 0, api.ErrLong},
		{zeros(2000), 1, api.OK},
		{zeros(2001), 0, api.ErrLong},
		{strings.Repeat("a ", 63) + "a", 64, api.OK},
		{strings.Repeat(`"" `, 63) + `""`, 64, api.OK},
		{strings.Repeat("a ", 64) + "a", 0, api.ErrLong},
		{strings.Repeat(`"" `, 64) + `""`, 0, api.ErrLong},
		{strings.Repeat("a ", 64), 0, api.ErrForm},
		{strings.Repeat("a ", 64) + `"`, 0, api.ErrForm},
		{a(2001) + " ", 0, api.ErrForm},
		{" " + a(2001), 0, api.ErrForm},
		{a(2001) + "\x00", 0, api.ErrForm},
		{line(a(2000), a(2000), a(2000), a(2000), a(188)), 5, api.OK},
		{line(a(2000), a(2000), a(2000), a(2000), a(189)), 0, api.ErrLong},
		{a(8192), 0, api.ErrLong},
		{a(8191) + `"`, 0, api.ErrForm},
		{a(8192) + `"`, 0, api.ErrLong},
		{strings.Repeat(" ", 8192), 0, api.ErrForm},
		{strings.Repeat(" ", 8193), 0, api.ErrLong},
		{strings.Repeat("a ", 4095) + "aa", 0, api.ErrLong},
		{strings.Repeat("\n", 1<<20), 0, api.ErrLong},
	} {
		if l, e := words.Split(x.line); len(l) != x.n || e != x.want {
			t.Errorf("%d: Split(%.30q) is %d fields, %d, not %d, %d", i, x.line, len(l), e, x.n, x.want)
		}
	}
	for _, s := range []string{"a  b", " ", " a", "a ", "\ta", "a\tb", "a\n", `"a`, `"a"b`, `a"b"`, `"a""b"`, `"\x41"`, `a\b`, `"a"  "b"`, "é", "a\x7f"} {
		if l, e := words.Split(s); len(l) > 0 || e != api.ErrForm {
			t.Errorf("Split(%q) is %s, %d", s, show(l), e)
		}
	}
}

// P1.4: the limits, one byte or field on both sides, and which error is first.
func TestJoinLimits(t *testing.T) {
	a := func(n int) string { return strings.Repeat("a", n) }
	full := many(4, bare(a(2000)))
	for i, x := range []struct {
		l    []api.Field
		want api.Errno
	}{
		{many(64, bare("a")), api.OK},
		{many(65, bare("a")), api.ErrLong},
		{many(65, bare("")), api.ErrLong},
		{many(65, inQuotes("")), api.ErrLong},
		{[]api.Field{bare(a(2000))}, api.OK},
		{[]api.Field{bare(a(2001))}, api.ErrLong},
		{[]api.Field{inQuotes(a(2000))}, api.OK},
		{[]api.Field{inQuotes(a(2001))}, api.ErrLong},
		{[]api.Field{bare(""), bare(a(2001))}, api.ErrLong},
		{[]api.Field{bare(a(2001)), bare("")}, api.ErrLong},
		{[]api.Field{inQuotes(strings.Repeat("\x00", 2000)), bare(a(189))}, api.OK},
		{[]api.Field{inQuotes(strings.Repeat("\x00", 2000)), bare(a(190))}, api.ErrLong},
		{append(slices.Clone(full), bare(a(188))), api.OK},
		{append(slices.Clone(full), bare(a(189))), api.ErrLong},
		{append(slices.Clone(full), inQuotes(a(186))), api.OK},
		{append(slices.Clone(full), inQuotes(a(187))), api.ErrLong},
		{append(slices.Clone(full), bare(a(2000)), bare("")), api.ErrForm},
		{append([]api.Field{bare("a b")}, many(5, bare(a(2000)))...), api.ErrForm},
	} {
		checkJoin(t, x.l)
		if _, e := words.Join(x.l); e != x.want {
			t.Errorf("%d: Join is %d, not %d", i, e, x.want)
		}
	}
}

// P1.8: joining two lists, and putting a space between, is joining both together.
func TestJoinTogether(t *testing.T) {
	lists := [][]api.Field{{bare("a")}, {inQuotes("")}, {bare("a"), inQuotes(" ")}, {inQuotes("\n\""), inQuotes("\\"), bare("-")}, many(20, inQuotes(" a ")), {inQuotes(allBytes())}}
	for _, l := range lists {
		for _, k := range lists {
			first, e1 := words.Join(l)
			second, e2 := words.Join(k)
			both, e3 := words.Join(slices.Concat(l, k))
			if e1 != api.OK || e2 != api.OK || e3 != api.OK || both != first+" "+second {
				t.Errorf("Join of both is %.60q, %d, not %.60q and %.60q", both, e3, first, second)
			}
		}
	}
}

// P1.5: the lines of texts.
func TestLinesOf(t *testing.T) {
	each("a\n\r ", 6, func(s string) {
		l, e := words.Lines(s)
		if s != "" && !strings.HasSuffix(s, "\n") {
			if len(l) > 0 || e != api.ErrForm {
				t.Errorf("Lines(%q) is %q, %d", s, l, e)
			}
			return
		}
		back := ""
		for _, line := range l {
			if strings.Contains(line, "\n") {
				t.Errorf("Lines(%q) has the line %q", s, line)
			}
			back += line + "\n"
		}
		if back != s || e != api.OK {
			t.Errorf("Lines(%q) is %q, %d", s, l, e)
		}
	})
	if l, e := words.Lines("\x00\xff\"\n\n b\r\n"); !slices.Equal(l, []string{"\x00\xff\"", "", " b\r"}) || e != api.OK {
		t.Errorf("Lines is %q, %d", l, e)
	}
}

// P1.5: the limits of a text, and which error is first.
func TestLinesLimits(t *testing.T) {
	feeds := func(n int) string { return strings.Repeat("\n", n) }
	long := strings.Repeat("x", 1<<20)
	for i, x := range []struct {
		text string
		n    int
		want api.Errno
	}{
		{"", 0, api.OK},
		{feeds(4999), 4999, api.OK},
		{feeds(5000), 5000, api.OK},
		{feeds(5001), 0, api.ErrLong},
		{feeds(5000) + "x", 0, api.ErrForm},
		{feeds(5001) + "x", 0, api.ErrForm},
		{strings.Repeat("ab\n", 5000), 5000, api.OK},
		{strings.Repeat("ab\n", 5001), 0, api.ErrLong},
		{long[1:] + "\n", 1, api.OK},
		{long, 0, api.ErrForm},
		{long + "\n", 0, api.ErrLong},
		{long + "x", 0, api.ErrLong},
		{feeds(1 << 20), 0, api.ErrLong},
		{feeds(1<<20 + 1), 0, api.ErrLong},
	} {
		if l, e := words.Lines(x.text); len(l) != x.n || e != x.want {
			t.Errorf("%d: Lines is %d lines, %d, not %d, %d", i, len(l), e, x.n, x.want)
		}
	}
}
