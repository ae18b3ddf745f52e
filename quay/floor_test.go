package quay

import (
	"math"
	"slices"
	"strings"
	"testing"

	"quay/api"
)

// at makes a queue whose floor has gone on: no call moves it yet.
func at(t *testing.T, kept, floor int, bodies ...string) *Queue {
	t.Helper()
	q, e := Open(api.Config{Lease: 10, Deliveries: 2, Segment: 1, Kept: kept}, "")
	if e != api.OK {
		t.Fatalf("Open = %d", e)
	}
	q.floor, q.bodies = floor, bodies
	return q
}

// enqueue takes a message in, or is refused, and checks the answer.
func enqueue(t *testing.T, q *Queue, body string, want int, wantErr api.Errno) {
	t.Helper()
	if n, e := q.Enqueue(body); n != want || e != wantErr {
		t.Fatalf("Enqueue(%q) = %d, %d, want %d, %d", body, n, e, want, wantErr)
	}
}

func TestSpanGoesFromTheFloorToTheEnd(t *testing.T) {
	for _, floor := range []int{0, 1, 7, 399, 400} {
		for _, bodies := range [][]string{nil, {"a"}, {"a", "b", "c"}} {
			q := at(t, 5, floor, bodies...)
			if r := q.Span(); r != (api.Range{Low: floor, High: floor + len(bodies)}) {
				t.Errorf("%d kept from %d on: Span() = %v", len(bodies), floor, r)
			}
		}
	}
}

func TestEnqueueCountsFromTheFloor(t *testing.T) {
	q := at(t, 3, 6, "g")
	enqueue(t, q, "h", 7, api.OK)
	enqueue(t, q, "i", 8, api.OK)
	enqueue(t, q, "j", 0, api.ErrFull)
	if !slices.Equal(q.bodies, []string{"g", "h", "i"}) {
		t.Errorf("kept: %q", q.bodies)
	}
}

func TestEnqueueEndsAtMaxOffset(t *testing.T) {
	q := at(t, 5, 398)
	enqueue(t, q, "x", 398, api.OK)
	enqueue(t, q, "y", 399, api.OK)
	for _, body := range []string{"", "z", strings.Repeat("x", 64)} {
		enqueue(t, q, body, 0, api.ErrEnd)
	}
	enqueue(t, q, strings.Repeat("x", 65), 0, api.ErrLong)
	if r := q.Span(); r != (api.Range{Low: 398, High: 400}) {
		t.Errorf("Span() = %v", r)
	}
	if !slices.Equal(q.bodies, []string{"x", "y"}) {
		t.Errorf("kept: %q", q.bodies)
	}
}

func TestEnqueueNamesErrEndAheadOfErrFull(t *testing.T) {
	full := at(t, 2, 397, "x")
	enqueue(t, full, "y", 398, api.OK)
	enqueue(t, full, "z", 0, api.ErrFull)
	both := at(t, 2, 398, "x", "y")
	enqueue(t, both, "z", 0, api.ErrEnd)
	enqueue(t, both, strings.Repeat("x", 65), 0, api.ErrLong)
	enqueue(t, at(t, 2, 400), "", 0, api.ErrEnd)
}

func TestGroupStartsAtTheFloorWhereverItIs(t *testing.T) {
	for _, floor := range []int{1, 7, 398, 400} {
		q := at(t, 5, floor, make([]string, min(2, 400-floor))...)
		end := q.Span().High
		for _, from := range []int{-1, 0, floor - 1, end + 1, math.MinInt, math.MaxInt} {
			if e := q.Group("g", from); e != api.ErrOffset || len(q.groups) != 0 {
				t.Errorf("floor %d: Group from %d = %d, %d groups", floor, from, e, len(q.groups))
			}
		}
		for i, from := range []int{floor, end} {
			name := string(rune('g' + i))
			if e := q.Group(name, from); e != api.OK || q.groups[name].start != from {
				t.Errorf("floor %d: Group from %d = %d", floor, from, e)
			}
		}
	}
}
