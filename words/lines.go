package words

import (
	"iter"
	"strings"

	"groundling/api"
)

// Split returns the fields of a line.
func Split(line string) ([]api.Field, api.Errno) {
	if len(line) > api.MaxLine {
		return nil, api.ErrLong
	}
	var l []api.Field
	for f, ok := range fieldsOf(line) {
		if !ok {
			return nil, api.ErrForm
		}
		l = append(l, f)
	}
	if tooLong(l) {
		return nil, api.ErrLong
	}
	return l, api.OK
}

// Join returns the line that consists of the fields l.
func Join(l []api.Field) (string, api.Errno) {
	if tooLong(l) {
		return "", api.ErrLong
	}
	written := make([]string, len(l))
	for i, f := range l {
		switch {
		case f.Quoted:
			written[i] = Quote(f.S)
		case f.S != "" && bareSize(f.S) == len(f.S):
			written[i] = f.S
		default:
			return "", api.ErrForm
		}
	}
	line := strings.Join(written, " ")
	if len(line) > api.MaxLine {
		return "", api.ErrLong
	}
	return line, api.OK
}

// Lines returns the lines of a text, without their line feeds.
func Lines(text string) ([]string, api.Errno) {
	if len(text) > api.MaxText {
		return nil, api.ErrLong
	}
	if text == "" {
		return nil, api.OK
	}
	body, ended := strings.CutSuffix(text, "\n")
	if !ended {
		return nil, api.ErrForm
	}
	if strings.Count(text, "\n") > api.MaxLines {
		return nil, api.ErrLong
	}
	return strings.Split(body, "\n"), api.OK
}

// tooLong reports whether there are too many fields, or one with too many bytes.
func tooLong(l []api.Field) bool {
	for _, f := range l {
		if len(f.S) > api.MaxField {
			return true
		}
	}
	return len(l) > api.MaxFields
}

// bareSize returns how many bytes of a bare field s begins with.
func bareSize(s string) int {
	for i := 0; i < len(s); i++ {
		if !itself(s[i]) || s[i] == ' ' {
			return i
		}
	}
	return len(s)
}

// fieldsOf yields the fields of a line, of whatever number and length, each with true; at the first place where there should be a field or a space and is none, it yields false, and ends.
func fieldsOf(line string) iter.Seq2[api.Field, bool] {
	return func(yield func(api.Field, bool) bool) {
		var f api.Field
		size, rest := 0, line
		if rest == "" {
			return
		}
	field:
		if strings.HasPrefix(rest, `"`) {
			goto quoted
		}
		size = bareSize(rest)
		f = api.Field{S: rest[:size]}
		goto end
	quoted:
		f = api.Field{Quoted: true}
		f.S, size = readQuoted(rest)
	end:
		rest = rest[size:]
		if size == 0 || rest != "" && rest[0] != ' ' {
			yield(api.Field{}, false)
			return
		}
		if !yield(f, true) || rest == "" {
			return
		}
		rest = rest[1:]
		goto field
	}
}
