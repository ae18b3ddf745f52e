package quay_test

import (
	"math"
	"strconv"
	"strings"
	"testing"

	"quay/api"
	"quay/quay"
)

// at opens a queue whose floor has gone on, and takes in some messages more, each with its offset as its body.
// Its one group, "all", is done with all that went.
func at(t *testing.T, kept, floor, messages int) *quay.Queue {
	t.Helper()
	q := open(t, api.Config{Lease: 10, Deliveries: 2, Segment: 1, Kept: kept})
	group(t, q, "all", 0, api.OK)
	for i := range floor {
		enqueue(t, q, strconv.Itoa(i), i)
		take(t, q, "all", i, 1)
		retain(t, q, 1)
	}
	for i := range messages {
		enqueue(t, q, strconv.Itoa(floor+i), floor+i)
	}
	return q
}

func TestSpanGoesFromTheFloorToTheEnd(t *testing.T) {
	for _, floor := range []int{0, 1, 7, 397, 400} {
		for messages := range 4 {
			if floor+messages <= 400 {
				span(t, at(t, 5, floor, messages), floor, floor+messages)
			}
		}
	}
}

func TestEnqueueCountsFromTheFloor(t *testing.T) {
	q := at(t, 3, 6, 1)
	enqueue(t, q, "7", 7)
	enqueue(t, q, "8", 8)
	refused(t, q, "9", api.ErrFull)
	receive(t, q, "all", 32, each(6, 8, 1)...)
	// As many go in as went.
	ack(t, q, "all", 6, 1, api.OK)
	refused(t, q, "9", api.ErrFull)
	retain(t, q, 1)
	enqueue(t, q, "9", 9)
	refused(t, q, "10", api.ErrFull)
	receive(t, q, "all", 32, of(9, 1))
}

func TestEnqueueEndsAtMaxOffset(t *testing.T) {
	q := at(t, 5, 398, 0)
	enqueue(t, q, "398", 398)
	enqueue(t, q, "399", 399)
	for _, body := range []string{"", "z", strings.Repeat("x", 64)} {
		refused(t, q, body, api.ErrEnd)
	}
	refused(t, q, strings.Repeat("x", 65), api.ErrLong)
	receive(t, q, "all", 32, each(398, 399, 1)...)
	ack(t, q, "all", 398, 1, api.OK)
	ack(t, q, "all", 399, 1, api.OK)
	// What went was taken all the same.
	retain(t, q, 2)
	span(t, q, 400, 400)
	refused(t, q, "", api.ErrEnd)
	receive(t, q, "all", 32)
	retain(t, q, 0)
	done(t, q, "all", api.Range{Low: 0, High: 399})
	ack(t, q, "all", 400, 1, api.ErrOffset)
	group(t, q, "g", 400, api.OK)
	group(t, q, "h", 399, api.ErrOffset)
	retain(t, q, 0)
}

func TestEnqueueNamesErrEndAheadOfErrFull(t *testing.T) {
	full := at(t, 2, 397, 1)
	enqueue(t, full, "398", 398)
	refused(t, full, "399", api.ErrFull)
	both := at(t, 2, 398, 2)
	refused(t, both, "400", api.ErrEnd)
	refused(t, both, strings.Repeat("x", 65), api.ErrLong)
	refused(t, at(t, 2, 400, 0), "", api.ErrEnd)
}

func TestGroupStartsAtTheFloorWhereverItIs(t *testing.T) {
	for _, floor := range []int{1, 7, 398, 400} {
		q := at(t, 5, floor, min(2, 400-floor))
		end := q.Span().High
		for _, from := range []int{-1, 0, floor - 1, end + 1, math.MinInt, math.MaxInt} {
			group(t, q, "g", from, api.ErrOffset)
		}
		group(t, q, "g", floor, api.OK)
		group(t, q, "h", end, api.OK)
		receive(t, q, "g", 32, each(floor, end-1, 1)...)
		receive(t, q, "h", 32)
		done(t, q, "g")
		done(t, q, "h")
	}
}

func TestRetainWithoutGroupsLetsNothingGo(t *testing.T) {
	for messages := range 6 {
		q := filled(t, example, messages)
		retain(t, q, 0)
		retain(t, q, 0)
		group(t, q, "g", 0, api.OK)
		receive(t, q, "g", 32, each(0, messages-1, 1)...)
	}
}

func TestRetainGoesByWholeSegments(t *testing.T) {
	for segment := 1; segment <= 16; segment++ {
		q := filled(t, api.Config{Lease: 10, Deliveries: 2, Segment: segment, Kept: 50}, 50)
		group(t, q, "g", 0, api.OK)
		for offset := range 50 {
			take(t, q, "g", offset, 1)
			if (offset+1)%segment == 0 {
				retain(t, q, segment)
			}
			retain(t, q, 0)
		}
	}
}

func TestRetainMayLetSeveralSegmentsGo(t *testing.T) {
	for segment := 1; segment <= 16; segment++ {
		for acked := range 33 {
			q := filled(t, api.Config{Lease: 10, Deliveries: 2, Segment: segment, Kept: 50}, 40)
			group(t, q, "g", 0, api.OK)
			receive(t, q, "g", 32, each(0, 31, 1)...)
			for offset := range acked {
				ack(t, q, "g", offset, 1, api.OK)
			}
			retain(t, q, acked/segment*segment)
			retain(t, q, 0)
			tick(t, q, 10, api.OK)
			receive(t, q, "g", 32, append(each(acked, 31, 2), each(32, min(39, acked+31), 1)...)...)
		}
	}
}

func TestRetainEndsAtTheFirstGap(t *testing.T) {
	for gap := range 8 {
		q := filled(t, wide(), 8)
		group(t, q, "g", 0, api.OK)
		receive(t, q, "g", 8, each(0, 7, 1)...)
		for offset := range 8 {
			if offset != gap {
				ack(t, q, "g", offset, 1, api.OK)
			}
		}
		retain(t, q, gap/2*2)
		tick(t, q, 10, api.OK)
		receive(t, q, "g", 8, of(gap, 2))
		ack(t, q, "g", gap, 2, api.OK)
		retain(t, q, 8-gap/2*2)
		span(t, q, 8, 8)
	}
}

func TestRetainTakesTheLeastMark(t *testing.T) {
	names := []string{"a", "b", "c", "d", "e", "f"}
	for slow := range names {
		q := filled(t, wide(), 20)
		for _, name := range names {
			group(t, q, name, 0, api.OK)
		}
		for i, name := range names {
			for offset := range 20 {
				if i == slow && offset == 5 {
					break
				}
				take(t, q, name, offset, 1)
			}
		}
		retain(t, q, 4)
		take(t, q, names[slow], 5, 1)
		retain(t, q, 2)
		retain(t, q, 0)
		done(t, q, names[slow], api.Range{Low: 0, High: 5})
	}
}

func TestRetainLooksAtGroupsFromTheirStartsOn(t *testing.T) {
	q := filled(t, wide(), 10)
	group(t, q, "late", 7, api.OK)
	// Alone, its mark is its start, though it is done with nothing: what lies ahead of it may go.
	retain(t, q, 6)
	group(t, q, "slow", 6, api.OK)
	for _, offset := range []int{7, 8, 9} {
		take(t, q, "late", offset, 1)
	}
	retain(t, q, 0)
	take(t, q, "slow", 6, 1)
	retain(t, q, 0)
	take(t, q, "slow", 7, 1)
	retain(t, q, 2)
	done(t, q, "late", api.Range{Low: 7, High: 9})
	done(t, q, "slow", api.Range{Low: 6, High: 7})
}

func TestRetainWithAStartAboveTheOthersMarks(t *testing.T) {
	q := filled(t, wide(), 10)
	group(t, q, "low", 0, api.OK)
	group(t, q, "high", 8, api.OK)
	group(t, q, "end", 10, api.OK)
	retain(t, q, 0)
	for offset := range 5 {
		take(t, q, "low", offset, 1)
	}
	retain(t, q, 4)
	receive(t, q, "low", 32, each(5, 9, 1)...)
	for offset := 5; offset < 10; offset++ {
		ack(t, q, "low", offset, 1, api.OK)
	}
	// Now the start of "high" is the least mark.
	retain(t, q, 4)
	receive(t, q, "high", 32, each(8, 9, 1)...)
	ack(t, q, "high", 9, 1, api.OK)
	retain(t, q, 0)
	ack(t, q, "high", 8, 1, api.OK)
	retain(t, q, 2)
	done(t, q, "end")
}

func TestRetainOfAGroupAtTheEnd(t *testing.T) {
	for messages := range 6 {
		q := filled(t, example, messages)
		group(t, q, "g", messages, api.OK)
		retain(t, q, messages/2*2)
		done(t, q, "g")
		enqueue(t, q, strconv.Itoa(messages), messages)
		take(t, q, "g", messages, 1)
		retain(t, q, (messages+1)/2*2-messages/2*2)
		done(t, q, "g", api.Range{Low: messages, High: messages})
	}
}

func TestRetainKeepsWhatIsLeasedOrGivenBack(t *testing.T) {
	q := filled(t, example, 4)
	group(t, q, "g", 0, api.OK)
	retain(t, q, 0)
	receive(t, q, "g", 4, each(0, 3, 1)...)
	retain(t, q, 0)
	nack(t, q, "g", 0, 1, 5, api.OK)
	nack(t, q, "g", 1, 1, 0, api.OK)
	retain(t, q, 0)
	tick(t, q, 10, api.OK)
	retain(t, q, 0)
	receive(t, q, "g", 4, each(0, 3, 2)...)
	tick(t, q, 10, api.OK)
	// They are to die, but die in a Receive only.
	retain(t, q, 0)
	receive(t, q, "g", 1)
	retain(t, q, 4)
	dead(t, q, "g", each(0, 3, 2)...)
	done(t, q, "g", api.Range{Low: 0, High: 3})
}

func TestRetainMakesRoom(t *testing.T) {
	q := filled(t, example, 5)
	group(t, q, "g", 0, api.OK)
	next := 5
	for next < 400 {
		refused(t, q, "x", api.ErrFull)
		list, e := q.Receive("g", 32)
		if e != api.OK || len(list) == 0 {
			t.Fatalf("Receive = %v, %d", list, e)
		}
		for _, d := range list {
			if d != of(d.Offset, 1) {
				t.Fatalf("delivered: %v", d)
			}
			ack(t, q, "g", d.Offset, d.Try, api.OK)
		}
		room := q.Retain()
		if room == 0 {
			t.Fatal("Retain let nothing go")
		}
		for range min(room, 400-next) {
			enqueue(t, q, strconv.Itoa(next), next)
			next++
		}
	}
	refused(t, q, "x", api.ErrEnd)
}
