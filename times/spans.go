package times

import (
	"cmp"
	"slices"

	"groundling/api"
)

// Check returns whether s is a span.
func Check(s api.TmSpan) api.Errno {
	if anyNegative(s.From, s.To) {
		return api.ErrRange
	}
	if s.From >= s.To {
		return api.ErrForm
	}
	return api.OK
}

// Meet returns the span of the times that both have.
func Meet(a, b api.TmSpan) (s api.TmSpan, some bool, e api.Errno) {
	if e := checkAll([]api.TmSpan{a, b}); e != api.OK {
		return api.TmSpan{}, false, e
	}
	both := api.TmSpan{From: max(a.From, b.From), To: min(a.To, b.To)}
	if both.From >= both.To {
		return api.TmSpan{}, false, api.OK
	}
	return both, true, api.OK
}

// Union returns the spans of the times that a span of l has.
func Union(l []api.TmSpan) ([]api.TmSpan, api.Errno) {
	if e := checkLists(l); e != api.OK {
		return nil, e
	}
	return joined(l), api.OK
}

// Minus returns the spans of the times that a span of a has, and none of b.
func Minus(a, b []api.TmSpan) ([]api.TmSpan, api.Errno) {
	if e := checkLists(a, b); e != api.OK {
		return nil, e
	}
	var left []api.TmSpan
	without := joined(b)
	for _, s := range joined(a) {
		left = appendLeft(left, s, without)
	}
	return left, api.OK
}

// Total returns how many times the spans have together.
func Total(l []api.TmSpan) (int64, api.Errno) {
	if e := checkLists(l); e != api.OK {
		return 0, e
	}
	total := int64(0)
	for _, s := range joined(l) {
		total += s.To - s.From // their ends are times, so that the sum is one
	}
	return total, api.OK
}

// checkLists returns the first error of lists: their lengths come before their spans.
func checkLists(lists ...[]api.TmSpan) api.Errno {
	for _, l := range lists {
		if len(l) > api.MaxSpans {
			return api.ErrLong
		}
	}
	for _, l := range lists {
		if e := checkAll(l); e != api.OK {
			return e
		}
	}
	return api.OK
}

// checkAll returns the error of Check for the first of the spans that is none.
func checkAll(l []api.TmSpan) api.Errno {
	for _, s := range l {
		if e := Check(s); e != api.OK {
			return e
		}
	}
	return api.OK
}

// joined returns the spans of the times that a span of l has.
func joined(l []api.TmSpan) []api.TmSpan {
	ascending := slices.Clone(l)
	slices.SortFunc(ascending, func(a, b api.TmSpan) int { return cmp.Compare(a.From, b.From) })
	var all []api.TmSpan
	for _, s := range ascending {
		last := len(all) - 1
		if last >= 0 && s.From <= all[last].To {
			all[last].To = max(all[last].To, s.To)
		} else {
			all = append(all, s)
		}
	}
	return all
}

// appendLeft appends what is left of s without the spans, which ascend.
func appendLeft(left []api.TmSpan, s api.TmSpan, without []api.TmSpan) []api.TmSpan {
	from := s.From
	for _, x := range without {
		left = appendSome(left, from, min(x.From, s.To))
		from = max(from, x.To)
	}
	return appendSome(left, from, s.To)
}

// appendSome appends the span of the times from from on that are less than to, if there are any.
func appendSome(l []api.TmSpan, from, to int64) []api.TmSpan {
	if from < to {
		l = append(l, api.TmSpan{From: from, To: to})
	}
	return l
}
