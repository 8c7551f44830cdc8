package page

import "parchment/api"

// maxAlike is how many places at which two pages are alike may lie between two at which they differ, all in one span.
const maxAlike = 7

// Diff is the spans at which two pages differ.
func Diff(a, b []byte) []api.Span {
	if len(a) != api.BlockSize || len(b) != api.BlockSize {
		return nil
	}
	var spans []api.Span
	put := func(from, to int) {
		spans = append(spans, api.Span{Off: from, Old: copied(a[from:to]), New: copied(b[from:to])})
	}
	from, to := 0, 0 // the span that is not put yet, since more may belong to it; to is 0 while there is none
	for i := range a {
		if a[i] == b[i] {
			continue
		}
		switch {
		case to == 0:
			from = i
		case i-to > maxAlike:
			put(from, to)
			from = i
		}
		to = i + 1
	}
	if to > 0 {
		put(from, to)
	}
	return spans
}
