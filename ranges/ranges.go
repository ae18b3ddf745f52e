// Package ranges: sets of numbers as ranges: see DOC.md.
package ranges

import "quay/api"

// Add tells a set with the numbers of a range more (P3).
func Add(set []api.Range, r api.Range) ([]api.Range, api.Errno) {
	if !isSet(set) || !isRange(r) {
		return nil, api.ErrRange
	}
	// The answer is made anew, never appended to the set: its spare room is the caller's.
	out := make([]api.Range, 0, len(set)+1)
	i := 0
	for i < len(set) && apart(set[i], r) {
		out = append(out, set[i])
		i++
	}
	for i < len(set) && !apart(r, set[i]) {
		r = span(r, set[i])
		i++
	}
	out = append(out, r)
	return append(out, set[i:]...), api.OK
}

// Has tells whether a number is in a set (P3).
func Has(set []api.Range, n int) (bool, api.Errno) {
	if !isSet(set) {
		return false, api.ErrRange
	}
	for _, r := range set {
		if within(r, n) {
			return true, api.OK
		}
	}
	return false, api.OK
}

// Gap tells the least number from one on that is not in a set (P3).
func Gap(set []api.Range, from int) (int, api.Errno) {
	if !isSet(set) || from < 0 || from > api.MaxSpan {
		return 0, api.ErrRange
	}
	for _, r := range set {
		if within(r, from) {
			// The number behind a range is never in the next one: ranges of a set do not touch.
			return r.High + 1, api.OK
		}
	}
	return from, api.OK
}

// isSet tells whether a list is a set: ranges that rise, with a number between neighbours that is in neither.
func isSet(list []api.Range) bool {
	for i, r := range list {
		if !isRange(r) {
			return false
		}
		if i > 0 && !apart(list[i-1], r) {
			return false
		}
	}
	return true
}

// isRange tells whether a range lies within the bounds, its ends the right way round.
func isRange(r api.Range) bool {
	return 0 <= r.Low && r.Low <= r.High && r.High <= api.MaxSpan
}

// apart tells whether a range ends so far ahead of another that a number lies between them.
// Both must be ranges: High+1 could wrap round otherwise.
func apart(a, b api.Range) bool {
	return a.High+1 < b.Low
}

// span tells the least range that has all numbers of two.
func span(a, b api.Range) api.Range {
	return api.Range{Low: min(a.Low, b.Low), High: max(a.High, b.High)}
}

// within tells whether a number is in a range.
func within(r api.Range, n int) bool {
	return r.Low <= n && n <= r.High
}
