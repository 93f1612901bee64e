package pickle

import (
	"smalto/api"
)

// ends returns the least and the greatest one of the integers from low to high for which a condition holds, and whether there are any.
func ends(low, high int, holds func(n int) bool) (out api.Span, ok bool) {
	for more := range high - low + 1 {
		n := low + more
		if !holds(n) {
			continue
		}
		if !ok {
			out.Low = n
		}
		out.High, ok = n, true
	}
	return out, ok
}

// joined returns the span from the lesser end of two spans to the greater one.
func joined(a, b api.Span) api.Span {
	return api.Span{Low: min(a.Low, b.Low), High: max(a.High, b.High)}
}

// isIn reports whether a span lies within another one.
func isIn(s, in api.Span) bool {
	return in.Low <= s.Low && s.High <= in.High
}

// less returns a span less some others, whatever each of them is.
func less(s api.Span, others ...api.Span) api.Span {
	for _, o := range others {
		s = api.Span{Low: s.Low - o.High, High: s.High - o.Low}
	}
	return s
}

// isNone reports whether a span that was narrowed has no integers left: it is turned round.
func isNone(s api.Span) bool {
	return s.Low > s.High
}
