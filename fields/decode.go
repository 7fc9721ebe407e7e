package fields

import "groundling/api"

// maxWidth is how many bytes a number has at most.
const maxWidth = 8

// Decode returns the message that has these bytes, or where the first field begins that cannot be read.
func Decode(rules []api.FdRule, b []byte) (l []api.FdField, at int, e api.Errno) {
	if e := Check(rules); e != api.OK {
		return nil, 0, e
	}
	last := 0
reading:
	for at < len(b) {
		f, size, ok := read(rules, b[at:])
		switch {
		case !ok:
			break reading
		case f.Tag <= last, isMissing(rules, l, f.Tag):
			break reading
		}
		l, last, at = append(l, f), f.Tag, at+size
	}
	if at < len(b) || isMissing(rules, l, api.MaxFdTag+1) {
		return nil, at, api.ErrMalformed
	}
	return l, 0, api.OK
}

// read returns the field whose bytes b, which is not empty, begins with, and how many these are; ok: there is one, and its rule allows it.
func read(rules []api.FdRule, b []byte) (f api.FdField, size int, ok bool) {
	rule, found := ruleOf(rules, int(b[0]))
	head := 1 + countBytes(rule.Kind)
	if !found || len(b) < head {
		return api.FdField{}, 0, false
	}
	size = head + int(number(b[1:head]))
	if len(b) < size {
		return api.FdField{}, 0, false
	}
	f = api.FdField{Tag: rule.Tag}
	switch body := b[head:size]; {
	case rule.Kind == api.FdBytes:
		f.Bytes = string(body)
	case isShortest(body):
		f.Num = number(body)
	default:
		return api.FdField{}, 0, false
	}
	return f, size, allows(rule, f)
}

// isShortest reports whether b is the bytes of a number, as few as possible.
func isShortest(b []byte) bool {
	return len(b) == 0 || len(b) <= maxWidth && b[0] > 0
}
