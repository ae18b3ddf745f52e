package quay_test

import (
	"math"
	"strings"
	"testing"

	"quay/api"
	"quay/quay"
)

// example is the configuration of the document's examples.
var example = api.Config{Lease: 10, Deliveries: 2, Segment: 2, Kept: 5}

func open(t *testing.T, c api.Config) *quay.Queue {
	t.Helper()
	q, e := quay.Open(c, "")
	if q == nil || e != api.OK {
		t.Fatalf("Open(%+v) = %t, %d, want a queue", c, q != nil, e)
	}
	return q
}

// enqueue takes a message in, and checks its offset and what is kept then.
func enqueue(t *testing.T, q *quay.Queue, body string, want int) {
	t.Helper()
	floor := q.Span().Low
	if n, e := q.Enqueue(body); n != want || e != api.OK {
		t.Fatalf("Enqueue(%q) = %d, %d, want %d, 0", body, n, e, want)
	}
	span(t, q, floor, want+1)
}

// refused checks that a message is not taken in, and that what is kept stays as it was.
func refused(t *testing.T, q *quay.Queue, body string, want api.Errno) {
	t.Helper()
	was := q.Span()
	if n, e := q.Enqueue(body); n != 0 || e != want {
		t.Fatalf("Enqueue of %d bytes = %d, %d, want 0, %d", len(body), n, e, want)
	}
	span(t, q, was.Low, was.High)
}

// group makes a group, or is refused: what is kept stays as it was either way.
func group(t *testing.T, q *quay.Queue, name string, from int, want api.Errno) {
	t.Helper()
	was := q.Span()
	if e := q.Group(name, from); e != want {
		t.Fatalf("Group(%q, %d) = %d, want %d", name, from, e, want)
	}
	span(t, q, was.Low, was.High)
}

func span(t *testing.T, q *quay.Queue, low, high int) {
	t.Helper()
	if r := q.Span(); r != (api.Range{Low: low, High: high}) {
		t.Fatalf("Span() = %v, want %d, %d", r, low, high)
	}
}

func TestOpenTakesEachConfigWithinTheBounds(t *testing.T) {
	for _, c := range []api.Config{
		example,
		{Lease: 1, Deliveries: 1, Segment: 1, Kept: 1},
		{Lease: 60000, Deliveries: 10, Segment: 16, Kept: 100},
		{Lease: 1, Deliveries: 10, Segment: 1, Kept: 100},
		{Lease: 60000, Deliveries: 1, Segment: 16, Kept: 16},
		{Lease: 2, Deliveries: 2, Segment: 16, Kept: 17},
		{Lease: 59999, Deliveries: 9, Segment: 15, Kept: 99},
	} {
		span(t, open(t, c), 0, 0)
	}
}

// wrongConfigs: each has one number out of its bounds, or all of them.
func wrongConfigs() []api.Config {
	list := []api.Config{
		{},
		{Lease: -1, Deliveries: -1, Segment: -1, Kept: -1},
		{Lease: math.MaxInt, Deliveries: math.MaxInt, Segment: math.MaxInt, Kept: math.MaxInt},
		{Lease: math.MinInt, Deliveries: math.MinInt, Segment: math.MinInt, Kept: math.MinInt},
		// Kept from Segment on, but Segment out of the bounds.
		{Lease: 10, Deliveries: 2, Segment: 0, Kept: 0},
		{Lease: 10, Deliveries: 2, Segment: -3, Kept: -2},
		{Lease: 10, Deliveries: 2, Segment: 17, Kept: 17},
		{Lease: 10, Deliveries: 2, Segment: 100, Kept: 100},
	}
	for _, n := range []int{0, -1, -60000, math.MinInt, math.MinInt + 1, math.MaxInt, math.MaxInt - 1, 1 << 32, 1<<32 + 1} {
		list = append(list,
			api.Config{Lease: n, Deliveries: 2, Segment: 2, Kept: 5},
			api.Config{Lease: 10, Deliveries: n, Segment: 2, Kept: 5},
			api.Config{Lease: 10, Deliveries: 2, Segment: n, Kept: 5},
			api.Config{Lease: 10, Deliveries: 2, Segment: 2, Kept: n})
	}
	return append(list,
		api.Config{Lease: 60001, Deliveries: 2, Segment: 2, Kept: 5},
		api.Config{Lease: 10, Deliveries: 11, Segment: 2, Kept: 5},
		api.Config{Lease: 10, Deliveries: 2, Segment: 17, Kept: 50},
		api.Config{Lease: 10, Deliveries: 2, Segment: 2, Kept: 101})
}

func TestOpenRefusesEachConfigOutOfTheBounds(t *testing.T) {
	for _, c := range wrongConfigs() {
		// The configuration is looked at ahead of the log.
		for _, log := range []string{"", "x", "\x00", strings.Repeat("log", 100)} {
			if q, e := quay.Open(c, log); q != nil || e != api.ErrConfig {
				t.Errorf("Open(%+v, %q) = %t, %d, want no queue, %d", c, log, q != nil, e, api.ErrConfig)
			}
		}
	}
}

func TestOpenHoldsKeptAgainstSegment(t *testing.T) {
	for segment := 1; segment <= 16; segment++ {
		for kept := -1; kept <= 102; kept++ {
			c := api.Config{Lease: 10, Deliveries: 2, Segment: segment, Kept: kept}
			want := api.OK
			if kept < segment || kept > 100 {
				want = api.ErrConfig
			}
			if q, e := quay.Open(c, ""); e != want || (q != nil) != (want == api.OK) {
				t.Errorf("Open(%+v) = %t, %d, want %d", c, q != nil, e, want)
			}
		}
	}
}

func TestOpenGoesOverTheBounds(t *testing.T) {
	for lease := -1; lease <= 60002; lease++ {
		_, e := quay.Open(api.Config{Lease: lease, Deliveries: 2, Segment: 2, Kept: 5}, "")
		if (e == api.OK) != (1 <= lease && lease <= 60000) {
			t.Fatalf("Open with Lease %d: %d", lease, e)
		}
	}
	for n := -1; n <= 20; n++ {
		_, e := quay.Open(api.Config{Lease: 10, Deliveries: n, Segment: 2, Kept: 5}, "")
		if (e == api.OK) != (1 <= n && n <= 10) {
			t.Errorf("Open with Deliveries %d: %d", n, e)
		}
		_, e = quay.Open(api.Config{Lease: 10, Deliveries: 2, Segment: n, Kept: 50}, "")
		if (e == api.OK) != (1 <= n && n <= 16) {
			t.Errorf("Open with Segment %d: %d", n, e)
		}
	}
}

func TestOpenOfTextsThatAreNoLog(t *testing.T) {
	for _, log := range []string{" ", "x", "\x00", "\n", "\xff\xfe", "no log", strings.Repeat("\x00", 64), strings.Repeat("quay", 1000)} {
		q, e := quay.Open(example, log)
		if e == api.ErrLog && q == nil {
			continue
		}
		if e != api.OK || q == nil {
			t.Errorf("Open of %q = %t, %d, want a queue, or none and %d", log, q != nil, e, api.ErrLog)
			continue
		}
		if r := q.Span(); r.Low < 0 || r.High < r.Low || r.High > api.MaxOffset {
			t.Errorf("Open of %q: Span() = %v", log, r)
		}
	}
}

func TestEnqueueHoldsTheLengthInBytes(t *testing.T) {
	q := open(t, api.Config{Lease: 10, Deliveries: 2, Segment: 2, Kept: 100})
	for i, body := range []string{
		"", "a", strings.Repeat("x", 63), strings.Repeat("x", 64),
		strings.Repeat("\x00", 64), strings.Repeat("\xff", 64), "\n", "",
		strings.Repeat("ä", 32), strings.Repeat("𝄞", 16), "a", "a",
	} {
		enqueue(t, q, body, i)
	}
	for _, body := range []string{
		strings.Repeat("x", 65), strings.Repeat("x", 66), strings.Repeat("\x00", 65), strings.Repeat("\xff", 65),
		strings.Repeat("ä", 33), strings.Repeat("€", 22), strings.Repeat("𝄞", 17), strings.Repeat("x", 1<<20),
	} {
		refused(t, q, body, api.ErrLong)
	}
	// What was refused took no offset.
	enqueue(t, q, "next", 12)
}

func TestEnqueueTakesAsManyAsKeptSays(t *testing.T) {
	for kept := 1; kept <= 100; kept++ {
		q := open(t, api.Config{Lease: 10, Deliveries: 2, Segment: 1, Kept: kept})
		for i := range kept {
			refused(t, q, strings.Repeat("x", 65), api.ErrLong)
			enqueue(t, q, strings.Repeat("x", i%65), i)
		}
		for _, size := range []int{0, 1, 64} {
			refused(t, q, strings.Repeat("x", size), api.ErrFull)
		}
		// Where both apply, ErrLong is named first.
		refused(t, q, strings.Repeat("x", 65), api.ErrLong)
		refused(t, q, "", api.ErrFull)
	}
}

func TestGroupHoldsTheNameInBytes(t *testing.T) {
	for _, name := range []string{
		"g", " ", "\x00", "\xff", "\n", "ä", strings.Repeat("n", 15), strings.Repeat("n", 16),
		strings.Repeat("\x00", 16), strings.Repeat("\xff", 16), strings.Repeat("ä", 8), strings.Repeat("𝄞", 4),
	} {
		group(t, open(t, example), name, 0, api.OK)
	}
	q := open(t, example)
	for _, name := range []string{
		"", strings.Repeat("n", 17), strings.Repeat("\x00", 17), strings.Repeat("ä", 9), strings.Repeat("€", 6),
		strings.Repeat("𝄞", 5), strings.Repeat("n", 1<<20),
	} {
		// Of a name that is none, the start is not looked at.
		for _, from := range []int{0, -1, 1, math.MinInt, math.MaxInt} {
			group(t, q, name, from, api.ErrName)
		}
	}
	// None of them counts as a group.
	for _, name := range []string{"a", "b", "c", "d", "e", "f"} {
		group(t, q, name, 0, api.OK)
	}
	group(t, q, "", 0, api.ErrName)
	group(t, q, strings.Repeat("n", 17), 9, api.ErrName)
}

func TestGroupKeepsNamesApart(t *testing.T) {
	for _, pair := range [][2]string{
		{"g", "G"}, {"g", "g "}, {"g", " g"}, {"g", "g\x00"}, {"\x00", "\x00\x00"}, {"\xff", "\xfe"}, {"\xff", "\uFFFD"},
		{"a\u0308", "ä"}, {strings.Repeat("n", 16), strings.Repeat("n", 15)}, {strings.Repeat("n", 16), strings.Repeat("n", 15) + "m"},
	} {
		q := open(t, example)
		group(t, q, pair[0], 0, api.OK)
		group(t, q, pair[1], 0, api.OK)
		group(t, q, pair[0], 0, api.ErrTwice)
		group(t, q, pair[1], 0, api.ErrTwice)
	}
}

func TestGroupStartsFromTheFloorToTheEnd(t *testing.T) {
	for messages := range 6 {
		q := open(t, example)
		for i := range messages {
			enqueue(t, q, "x", i)
		}
		for _, from := range []int{-1, messages + 1, -messages - 1, messages + 2, 400, 401, 1 << 32, math.MinInt, math.MinInt + 1, math.MaxInt, math.MaxInt - 1} {
			group(t, q, "g", from, api.ErrOffset)
		}
		// The name was never taken by the ones that were refused.
		group(t, q, "g", messages, api.OK)
		group(t, q, "h", 0, api.OK)
		group(t, q, "i", messages/2, api.OK)
		group(t, q, "g", messages, api.ErrTwice)
	}
}

func TestGroupFollowsTheEnd(t *testing.T) {
	q := open(t, example)
	for i, name := range []string{"a", "b", "c", "d", "e"} {
		group(t, q, name, i+1, api.ErrOffset)
		enqueue(t, q, "x", i)
		group(t, q, name, i+1, api.OK)
	}
	refused(t, q, "x", api.ErrFull)
	group(t, q, "f", 6, api.ErrOffset)
	group(t, q, "f", 5, api.OK)
}

func TestGroupsAreSixAtMost(t *testing.T) {
	names := []string{"a", "b", "c", "d", "e", strings.Repeat("n", 16)}
	q := open(t, example)
	enqueue(t, q, "x", 0)
	for _, name := range names {
		group(t, q, name, 2, api.ErrOffset)
		group(t, q, name, 1, api.OK)
		group(t, q, name, 1, api.ErrTwice)
	}
	for _, from := range []int{0, 1, -1, 2, math.MinInt, math.MaxInt} {
		// Where several apply, ErrTwice is named ahead of ErrMany, and that one ahead of ErrOffset.
		for _, name := range names {
			group(t, q, name, from, api.ErrTwice)
		}
		group(t, q, "seventh", from, api.ErrMany)
		group(t, q, "\x00", from, api.ErrMany)
		group(t, q, "", from, api.ErrName)
		group(t, q, strings.Repeat("n", 17), from, api.ErrName)
	}
	// One that was refused is not there.
	group(t, q, "seventh", 0, api.ErrMany)
	enqueue(t, q, "y", 1)
}

func TestGroupTwiceComesAheadOfTheOffset(t *testing.T) {
	q := open(t, example)
	group(t, q, "g", 0, api.OK)
	for _, from := range []int{0, 1, -1, math.MinInt, math.MaxInt} {
		group(t, q, "g", from, api.ErrTwice)
	}
}

func TestSpanIsTheCallersOwn(t *testing.T) {
	q := open(t, example)
	enqueue(t, q, "x", 0)
	r := q.Span()
	r.Low, r.High = 7, 9
	span(t, q, 0, 1)
	span(t, q, 0, 1)
}

func TestQueuesOfOneConfigAreTwo(t *testing.T) {
	one, other := open(t, example), open(t, example)
	if one == other {
		t.Fatal("Open answered the same queue twice")
	}
	for i := range 5 {
		enqueue(t, one, "x", i)
	}
	for _, name := range []string{"a", "b", "c", "d", "e", "f"} {
		group(t, one, name, 5, api.OK)
	}
	span(t, other, 0, 0)
	group(t, other, "a", 5, api.ErrOffset)
	group(t, other, "a", 0, api.OK)
	enqueue(t, other, "y", 0)
	span(t, one, 0, 5)
	refused(t, one, "x", api.ErrFull)
	group(t, one, "g", 0, api.ErrMany)
}

func TestQueueKeepsItsConfig(t *testing.T) {
	c := example
	q := open(t, c)
	c.Kept = 2
	open(t, c)
	for i := range 5 {
		enqueue(t, q, "x", i)
	}
	refused(t, q, "x", api.ErrFull)
}
