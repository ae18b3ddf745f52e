package ranges_test

import (
	"math"
	"slices"
	"testing"

	"quay/api"
	"quay/ranges"
)

const top = api.MaxSpan

// of makes ranges of their ends.
func of(ends ...int) []api.Range {
	var list []api.Range
	for i := 0; i+1 < len(ends); i += 2 {
		list = append(list, api.Range{Low: ends[i], High: ends[i+1]})
	}
	return list
}

// roomy copies a list into memory with spare room, which is filled with marks.
func roomy(list []api.Range) []api.Range {
	whole := slices.Clone(list)
	for i := range 4 {
		whole = append(whole, api.Range{Low: 1000 + i, High: -i})
	}
	return whole[:len(list)]
}

// room tells all that lies behind a list, its spare room included.
func room(list []api.Range) []api.Range {
	return list[:cap(list)]
}

var notSets = map[string][]api.Range{
	"below 0":               of(-1, 0),
	"all below 0":           of(-5, -3),
	"ends swapped":          of(3, 2),
	"above MaxSpan":         of(0, top+1),
	"all above MaxSpan":     of(top+1, top+1),
	"touching":              of(0, 1, 2, 3),
	"touching at MaxSpan":   of(0, top-1, top, top),
	"sharing a number":      of(0, 1, 1, 3),
	"overlapping":           of(0, 5, 3, 9),
	"one within another":    of(0, 9, 3, 4),
	"twice the same":        of(2, 3, 2, 3),
	"falling":               of(5, 6, 1, 2),
	"falling by one":        of(5, 6, 4, 4),
	"second swapped":        of(0, 0, 9, 8),
	"second below 0":        of(3, 4, -1, 0),
	"last above MaxSpan":    of(0, 1, 4, 5, 9, top+1),
	"last touching":         of(0, 1, 4, 5, 6, 7),
	"least int":             of(math.MinInt, 0),
	"greatest int":          of(0, math.MaxInt),
	"greatest int first":    of(0, math.MaxInt, 5, 6),
	"greatest int, wrapped": of(0, math.MaxInt, math.MinInt, 3),
	"all ints":              of(math.MinInt, math.MaxInt),
	"swapped ints":          of(math.MaxInt, math.MinInt),
}

var notRanges = of(-1, 0, -1, -1, 3, 2, top, top-1, top+1, top, 0, top+1, top+1, top+1,
	math.MinInt, 0, 0, math.MaxInt, math.MinInt, math.MaxInt, math.MaxInt, math.MinInt, math.MaxInt, math.MaxInt)

var outOfBounds = []int{-1, -2, top + 1, top + 2, math.MinInt, math.MaxInt}

func TestAdd(t *testing.T) {
	three := of(3, 5, 7, 9, 11, 13)
	for _, c := range []struct {
		name      string
		set       []api.Range
		low, high int
		want      []api.Range
	}{
		{"example: touches the one below", of(0, 1, 4, 4), 2, 2, of(0, 2, 4, 4)},
		{"example: fills the gap", of(0, 1, 4, 4), 2, 3, of(0, 4)},
		{"to nothing", nil, 5, 7, of(5, 7)},
		{"to an empty list", []api.Range{}, 5, 7, of(5, 7)},
		{"0 to nothing", nil, 0, 0, of(0, 0)},
		{"MaxSpan to nothing", nil, top, top, of(top, top)},
		{"all to nothing", nil, 0, top, of(0, top)},
		{"ahead, apart", three, 0, 1, of(0, 1, 3, 5, 7, 9, 11, 13)},
		{"ahead, touching", three, 0, 2, of(0, 5, 7, 9, 11, 13)},
		{"ahead, overlapping", three, 1, 4, of(1, 5, 7, 9, 11, 13)},
		{"behind, apart", three, 15, 16, of(3, 5, 7, 9, 11, 13, 15, 16)},
		{"behind, touching", three, 14, 16, of(3, 5, 7, 9, 11, 16)},
		{"behind, overlapping", three, 13, 16, of(3, 5, 7, 9, 11, 16)},
		{"between, apart", of(0, 1, 9, 9), 4, 6, of(0, 1, 4, 6, 9, 9)},
		{"between, one number from each", of(0, 1, 5, 5), 3, 3, of(0, 1, 3, 3, 5, 5)},
		{"between, touching the lower", of(0, 1, 9, 9), 2, 6, of(0, 6, 9, 9)},
		{"between, touching the upper", of(0, 1, 9, 9), 4, 8, of(0, 1, 4, 9)},
		{"touching both", three, 6, 6, of(3, 9, 11, 13)},
		{"the same", three, 7, 9, three},
		{"within one", three, 8, 8, three},
		{"over one on both sides", of(0, 0, 5, 6, 20, 20), 4, 7, of(0, 0, 4, 7, 20, 20)},
		{"over several, from within to within", three, 4, 12, of(3, 13)},
		{"over several, wider than all", three, 1, 20, of(1, 20)},
		{"over several, neighbours left alone", of(0, 0, 3, 5, 7, 9, 12, 12), 5, 8, of(0, 0, 3, 9, 12, 12)},
		{"over several, touching the last", three, 4, 10, of(3, 13)},
		{"all over several", three, 0, top, of(0, top)},
		{"into all", of(0, top), 3, 4, of(0, top)},
		{"0 below a neighbour", of(2, 2), 0, 0, of(0, 0, 2, 2)},
		{"MaxSpan above a neighbour", of(top-2, top-2), top, top, of(top-2, top-2, top, top)},
		{"MaxSpan, touching", of(top-2, top-1), top, top, of(top-2, top)},
		{"below MaxSpan, touching", of(top, top), top - 1, top - 1, of(top-1, top)},
		{"all but 0 and MaxSpan", of(0, 0, top, top), 1, top - 1, of(0, top)},
	} {
		got, e := ranges.Add(c.set, api.Range{Low: c.low, High: c.high})
		if e != api.OK || !slices.Equal(got, c.want) {
			t.Errorf("P3, %s: Add(%v, %d-%d) = %v, %d, want %v", c.name, c.set, c.low, c.high, got, e, c.want)
		}
	}
}

func TestHas(t *testing.T) {
	set := of(0, 1, 4, 4, 7, 9, top, top)
	for n, want := range map[int]bool{
		0: true, 1: true, 2: false, 3: false, 4: true, 5: false, 6: false, 7: true, 8: true, 9: true, 10: false,
		top - 1: false, top: true, top + 1: false, -1: false, math.MinInt: false, math.MaxInt: false,
	} {
		if got, e := ranges.Has(set, n); got != want || e != api.OK {
			t.Errorf("P3: Has(%v, %d) = %t, %d, want %t", set, n, got, e, want)
		}
	}
	for _, n := range append([]int{0, 5, top}, outOfBounds...) {
		for _, empty := range [][]api.Range{nil, {}} {
			if got, e := ranges.Has(empty, n); got || e != api.OK {
				t.Errorf("P3: Has of nothing, %d = %t, %d", n, got, e)
			}
		}
		want := 0 <= n && n <= top
		if got, e := ranges.Has(of(0, top), n); got != want || e != api.OK {
			t.Errorf("P3: Has of all, %d = %t, %d, want %t", n, got, e, want)
		}
	}
}

func TestGap(t *testing.T) {
	example := of(0, 1, 4, 4)
	near := of(0, 0, 2, 2, 4, 6)
	high := of(top-3, top-2, top, top)
	for _, c := range []struct {
		set        []api.Range
		from, want int
	}{
		{example, 0, 2}, {example, 1, 2}, {example, 2, 2}, {example, 3, 3}, {example, 4, 5}, {example, 5, 5}, {example, top, top},
		{near, 0, 1}, {near, 1, 1}, {near, 2, 3}, {near, 3, 3}, {near, 4, 7}, {near, 5, 7}, {near, 6, 7}, {near, 7, 7},
		{nil, 0, 0}, {nil, 7, 7}, {nil, top, top}, {[]api.Range{}, 7, 7},
		{high, 0, 0}, {high, top - 3, top - 1}, {high, top - 1, top - 1}, {high, top, top + 1},
		{of(0, top), 0, top + 1}, {of(0, top), 9, top + 1}, {of(0, top), top, top + 1},
	} {
		if got, e := ranges.Gap(c.set, c.from); got != c.want || e != api.OK {
			t.Errorf("P3: Gap(%v, %d) = %d, %d, want %d", c.set, c.from, got, e, c.want)
		}
	}
}

func TestNotSets(t *testing.T) {
	for name, list := range notSets {
		for _, r := range append(of(0, 0, 3, 9, top, top, 0, top), notRanges...) {
			if got, e := ranges.Add(list, r); len(got) != 0 || e != api.ErrRange {
				t.Errorf("P1, P3, %s: Add(%v, %v) = %v, %d, want ErrRange", name, list, r, got, e)
			}
		}
		for _, n := range append([]int{0, 1, 3, 5, top}, outOfBounds...) {
			if got, e := ranges.Has(list, n); got || e != api.ErrRange {
				t.Errorf("P1, P3, %s: Has(%v, %d) = %t, %d, want ErrRange", name, list, n, got, e)
			}
			if got, e := ranges.Gap(list, n); got != 0 || e != api.ErrRange {
				t.Errorf("P1, P3, %s: Gap(%v, %d) = %d, %d, want ErrRange", name, list, n, got, e)
			}
		}
	}
}

func TestWrongArguments(t *testing.T) {
	for _, set := range [][]api.Range{nil, {}, of(0, 1, 4, 4), of(0, top)} {
		for _, r := range notRanges {
			if got, e := ranges.Add(set, r); len(got) != 0 || e != api.ErrRange {
				t.Errorf("P1, P3: Add(%v, %v) = %v, %d, want ErrRange", set, r, got, e)
			}
		}
		for _, n := range outOfBounds {
			if got, e := ranges.Gap(set, n); got != 0 || e != api.ErrRange {
				t.Errorf("P1, P3: Gap(%v, %d) = %d, %d, want ErrRange", set, n, got, e)
			}
		}
	}
}

// lists are sets and lists that are none, for the tests of what is handed in and what comes out.
func lists() [][]api.Range {
	all := [][]api.Range{nil, {}, of(0, 1, 4, 4), of(3, 5, 7, 9, 11, 13), of(0, top), of(top, top)}
	for _, list := range notSets {
		all = append(all, list)
	}
	return all
}

// added are ranges ahead of, within, over and behind those of lists, and some that are none.
func added() []api.Range {
	return append(of(0, 0, 2, 2, 2, 3, 4, 12, 6, 6, 8, 8, 20, 30, top, top, 0, top), notRanges...)
}

func TestNothingHandedInIsWrittenInto(t *testing.T) {
	for _, list := range lists() {
		set := roomy(list)
		before := slices.Clone(room(set))
		for _, r := range added() {
			ranges.Add(set, r)
			ranges.Has(set, r.Low)
			ranges.Gap(set, r.Low)
			if !slices.Equal(room(set), before) {
				t.Fatalf("P2: with %v: %v became %v", r, before, room(set))
			}
		}
	}
}

// spoil writes over a list and its spare room.
func spoil(list []api.Range) {
	all := room(list)
	for i := range all {
		all[i] = api.Range{Low: -7, High: -8}
	}
}

func TestAnswersAreNewMemory(t *testing.T) {
	for _, list := range lists() {
		for _, r := range added() {
			set := roomy(list)
			before := slices.Clone(room(set))
			one, _ := ranges.Add(set, r)
			other, _ := ranges.Add(set, r)
			otherBefore := slices.Clone(room(other))
			spoil(one)
			if !slices.Equal(room(set), before) {
				t.Errorf("P2: Add(%v, %v): writing into the answer changed the set", list, r)
			}
			if !slices.Equal(room(other), otherBefore) {
				t.Errorf("P2: Add(%v, %v): writing into one answer changed another", list, r)
			}
		}
	}
}

func TestNoListIsKept(t *testing.T) {
	for _, list := range lists() {
		for _, r := range added() {
			set := roomy(list)
			got, e := ranges.Add(set, r)
			want := slices.Clone(got)
			spoil(set)
			if !slices.Equal(got, want) {
				t.Errorf("P2: Add(%v, %v): writing into the set changed the answer", list, r)
			}
			again, f := ranges.Add(list, r)
			if !slices.Equal(again, want) || f != e {
				t.Errorf("P2: Add(%v, %v) = %v, %d, and then %v, %d", list, r, want, e, again, f)
			}
		}
	}
}

// width is how many numbers TestEveryNarrowSet looks at.
const width = 9

// setOf makes the set of the numbers whose bits are set, moved up by base: by definition, not by Add.
func setOf(bits uint, base int) []api.Range {
	var set []api.Range
	for n := range width {
		if bits>>n&1 == 0 {
			continue
		}
		if n > 0 && bits>>(n-1)&1 == 1 {
			set[len(set)-1].High = base + n
		} else {
			set = append(set, api.Range{Low: base + n, High: base + n})
		}
	}
	return set
}

// bitsOf makes the bits of the numbers from low to high.
func bitsOf(low, high int) uint {
	return 1<<(high+1) - 1<<low
}

// TestEveryNarrowSet holds every call against the plain meaning, at both ends of the span.
func TestEveryNarrowSet(t *testing.T) {
	for _, base := range []int{0, 1, top - width + 1} {
		for bits := range uint(1) << width {
			set := setOf(bits, base)
			checkAsked(t, set, bits, base)
			checkAdded(t, set, bits, base)
		}
	}
}

func checkAsked(t *testing.T, set []api.Range, bits uint, base int) {
	t.Helper()
	for n := range width {
		gap := n
		for bits>>gap&1 == 1 {
			gap++
		}
		if got, e := ranges.Has(set, base+n); got != (gap > n) || e != api.OK {
			t.Fatalf("P3: Has(%v, %d) = %t, %d", set, base+n, got, e)
		}
		if got, e := ranges.Gap(set, base+n); got != base+gap || e != api.OK {
			t.Fatalf("P3: Gap(%v, %d) = %d, %d, want %d", set, base+n, got, e, base+gap)
		}
	}
}

func checkAdded(t *testing.T, set []api.Range, bits uint, base int) {
	t.Helper()
	for low := range width {
		for high := low; high < width; high++ {
			r := api.Range{Low: base + low, High: base + high}
			want := setOf(bits|bitsOf(low, high), base)
			if got, e := ranges.Add(set, r); !slices.Equal(got, want) || e != api.OK {
				t.Fatalf("P3: Add(%v, %v) = %v, %d, want %v", set, r, got, e, want)
			}
		}
	}
}

// TestEveryPair holds what is refused against the document's words, for two ranges with ends about the bounds.
func TestEveryPair(t *testing.T) {
	ends := []int{math.MinInt, -1, 0, 1, 2, 3, top - 1, top, top + 1, math.MaxInt}
	good := func(r api.Range) bool { return r.Low >= 0 && r.High <= top && r.Low <= r.High }
	for _, a := range ends {
		for _, b := range ends {
			for _, c := range ends {
				for _, d := range ends {
					list := of(a, b, c, d)
					isSet := good(list[0]) && good(list[1]) && c > b && c-b >= 2
					want := api.ErrRange
					if isSet {
						want = api.OK
					}
					_, add := ranges.Add(list, api.Range{})
					_, has := ranges.Has(list, 0)
					_, gap := ranges.Gap(list, 0)
					if add != want || has != want || gap != want {
						t.Fatalf("P3: of %v: Add %d, Has %d, Gap %d, want %d", list, add, has, gap, want)
					}
				}
			}
		}
	}
}
