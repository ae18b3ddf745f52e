package quay_test

import (
	"testing"

	"quay/api"
	"quay/quay"
)

// leased opens a queue in which the messages 1 and 2 of 0 to 4 are leased to group "g", that starts at 1.
func leased(t *testing.T, deliveries int) *quay.Queue {
	t.Helper()
	c := example
	c.Deliveries = deliveries
	q := filled(t, c, 5)
	group(t, q, "g", 1, api.OK)
	receive(t, q, "g", 2, each(1, 2, 1)...)
	return q
}

// settlers: the three calls that a group settles a lease by, all with good numbers.
func settlers(q *quay.Queue) map[string]func(name string, offset, try int) api.Errno {
	return map[string]func(name string, offset, try int) api.Errno{
		"Ack":    q.Ack,
		"Nack":   func(name string, offset, try int) api.Errno { return q.Nack(name, offset, try, 3) },
		"Extend": func(name string, offset, try int) api.Errno { return q.Extend(name, offset, try, 3) },
	}
}

// settle makes one of the three calls.
func settle(t *testing.T, q *quay.Queue, call, name string, offset, try int, want api.Errno) {
	t.Helper()
	if e := settlers(q)[call](name, offset, try); e != want {
		t.Fatalf("%s(%q, %d, %d) = %d, want %d", call, name, offset, try, e, want)
	}
}

func TestSettlingNeedsAGroup(t *testing.T) {
	q := leased(t, 10)
	for call := range settlers(q) {
		for _, name := range strangers() {
			settle(t, q, call, name, 1, 1, api.ErrGroup)
			settle(t, q, call, name, 9, 9, api.ErrGroup)
		}
	}
	ack(t, q, "g", 1, 1, api.OK)
	ack(t, q, "g", 2, 1, api.OK)
}

func TestSettlingNeedsAKeptMessageFromTheStartOn(t *testing.T) {
	q := leased(t, 10)
	for call := range settlers(q) {
		// The start is 1, the end 5.
		for _, offset := range append([]int{-2, -1, 0, 5, 6, 400, 401}, extremes...) {
			settle(t, q, call, "g", offset, 1, api.ErrOffset)
			settle(t, q, call, "g", offset, 0, api.ErrOffset)
		}
		settle(t, q, call, "g", 3, 1, api.ErrReceipt)
		settle(t, q, call, "g", 4, 1, api.ErrReceipt)
	}
	ack(t, q, "g", 1, 1, api.OK)
	receive(t, q, "g", 9, each(3, 4, 1)...)
	ack(t, q, "g", 4, 1, api.OK)
}

func TestSettlingNeedsAMessageFromTheFloorOn(t *testing.T) {
	for call := range settlers(open(t, example)) {
		q := leased(t, 10)
		receive(t, q, "g", 9, each(3, 4, 1)...)
		ack(t, q, "g", 1, 1, api.OK)
		ack(t, q, "g", 2, 1, api.OK)
		// Both are kept still.
		settle(t, q, call, "g", 1, 1, api.ErrReceipt)
		settle(t, q, call, "g", 2, 1, api.ErrReceipt)
		retain(t, q, 2)
		for _, offset := range []int{-1, 0, 1, 5} {
			settle(t, q, call, "g", offset, 1, api.ErrOffset)
		}
		settle(t, q, call, "g", 2, 1, api.ErrReceipt)
		ack(t, q, "g", 3, 1, api.OK)
		retain(t, q, 2)
		settle(t, q, call, "g", 3, 1, api.ErrOffset)
		settle(t, q, call, "g", 4, 1, api.OK)
		settle(t, q, call, "g", 5, 1, api.ErrOffset)
	}
}

func TestSettlingNeedsTheTry(t *testing.T) {
	for call := range settlers(open(t, example)) {
		q := leased(t, 10)
		for try := 1; try <= 9; try++ {
			for _, other := range append([]int{-1, 0, try - 1, try + 1, try + 10}, extremes...) {
				settle(t, q, call, "g", 1, other, api.ErrReceipt)
			}
			tick(t, q, 9, api.OK)
			receive(t, q, "g", 1, of(3, try))
			nack(t, q, "g", 3, try, 0, api.OK)
			tick(t, q, 1, api.OK)
			settle(t, q, call, "g", 1, try, api.ErrReceipt)
			receive(t, q, "g", 2, each(1, 2, try+1)...)
		}
		settle(t, q, call, "g", 1, 10, api.OK)
		settle(t, q, call, "g", 2, 10, api.OK)
	}
}

func TestSettlingNeedsALease(t *testing.T) {
	for call := range settlers(open(t, example)) {
		q := leased(t, 10)
		// 3 was never delivered.
		for try := -1; try <= 2; try++ {
			settle(t, q, call, "g", 3, try, api.ErrReceipt)
		}
		// Given back, now or later, it is leased no more.
		for _, delay := range []int{0, 1, 60000} {
			other := leased(t, 10)
			nack(t, other, "g", 1, 1, delay, api.OK)
			settle(t, other, call, "g", 1, 1, api.ErrReceipt)
			settle(t, other, call, "g", 2, 1, api.OK)
		}
		// Acked, it is leased no more.
		ack(t, q, "g", 1, 1, api.OK)
		for try := range 3 {
			settle(t, q, call, "g", 1, try, api.ErrReceipt)
		}
		// Its lease over, it is leased no more: one below the end, at it, and behind it.
		tick(t, q, 9, api.OK)
		extend(t, q, "g", 2, 1, 10, api.OK)
		tick(t, q, 10, api.OK)
		settle(t, q, call, "g", 2, 1, api.ErrReceipt)
		tick(t, q, 1, api.OK)
		settle(t, q, call, "g", 2, 1, api.ErrReceipt)
	}
}

func TestSettlingEndsWithTheLease(t *testing.T) {
	for call := range settlers(open(t, example)) {
		for _, c := range []struct {
			after int
			want  api.Errno
		}{{0, api.OK}, {1, api.OK}, {8, api.OK}, {9, api.OK}, {10, api.ErrReceipt}, {11, api.ErrReceipt}, {60000, api.ErrReceipt}} {
			q := leased(t, 10)
			tick(t, q, c.after, api.OK)
			settle(t, q, call, "g", 1, 1, c.want)
		}
	}
}

func TestSettlingIsOfOneGroupAlone(t *testing.T) {
	for call := range settlers(open(t, example)) {
		q := leased(t, 2)
		group(t, q, "h", 0, api.OK)
		settle(t, q, call, "h", 1, 1, api.ErrReceipt)
		receive(t, q, "h", 3, each(0, 2, 1)...)
		settle(t, q, call, "h", 1, 1, api.OK)
		ack(t, q, "g", 1, 1, api.OK)
		nack(t, q, "h", 2, 1, 0, api.OK)
		ack(t, q, "g", 2, 1, api.OK)
		ack(t, q, "h", 0, 1, api.OK)
		done(t, q, "g", api.Range{Low: 1, High: 2})
	}
}

func TestAckIsForGood(t *testing.T) {
	q := leased(t, 2)
	ack(t, q, "g", 1, 1, api.OK)
	done(t, q, "g", api.Range{Low: 1, High: 1})
	for range 5 {
		tick(t, q, 60000, api.OK)
		if list, _ := q.Receive("g", 32); len(list) > 0 && list[0].Offset == 1 {
			t.Fatalf("delivered again: %v", list)
		}
	}
	dead(t, q, "g", each(2, 4, 2)...)
	done(t, q, "g", api.Range{Low: 1, High: 4})
}

func TestNackWaitsForTheDelay(t *testing.T) {
	for _, delay := range []int{1, 2, 9, 10, 11, 59999, 60000} {
		q := leased(t, 10)
		ack(t, q, "g", 2, 1, api.OK)
		tick(t, q, 5, api.OK)
		nack(t, q, "g", 1, 1, delay, api.OK)
		receive(t, q, "g", 2, each(3, 4, 1)...)
		ack(t, q, "g", 3, 1, api.OK)
		ack(t, q, "g", 4, 1, api.OK)
		tick(t, q, delay-1, api.OK)
		receive(t, q, "g", 32)
		tick(t, q, 1, api.OK)
		receive(t, q, "g", 32, of(1, 2))
	}
}

func TestNackWithoutDelayBringsItBackAtOnce(t *testing.T) {
	q := leased(t, 10)
	for try := 1; try <= 9; try++ {
		nack(t, q, "g", 1, try, 0, api.OK)
		receive(t, q, "g", 1, of(1, try+1))
	}
	ack(t, q, "g", 1, 10, api.OK)
	ack(t, q, "g", 2, 1, api.OK)
}

func TestNackMayBeOverdue(t *testing.T) {
	q := leased(t, 10)
	nack(t, q, "g", 1, 1, 20, api.OK)
	tick(t, q, 21, api.OK)
	receive(t, q, "g", 2, each(1, 2, 2)...)
	// The delay is of the try ahead: the new lease ends as every other.
	tick(t, q, 9, api.OK)
	extend(t, q, "g", 1, 2, 1, api.OK)
	tick(t, q, 1, api.OK)
	receive(t, q, "g", 2, each(1, 2, 3)...)
}

func TestNackRefusesWrongDelays(t *testing.T) {
	q := leased(t, 10)
	for _, delay := range append([]int{-1, -2, -60000, 60001, 60002}, extremes...) {
		nack(t, q, "x", 1, 1, delay, api.ErrGroup)
		nack(t, q, "g", 1, 1, delay, api.ErrRange)
		// The delay is named ahead of the offset and the try.
		nack(t, q, "g", 0, 1, delay, api.ErrRange)
		nack(t, q, "g", 5, 9, delay, api.ErrRange)
		nack(t, q, "g", 1, 2, delay, api.ErrRange)
	}
	nack(t, q, "g", 5, 9, 0, api.ErrOffset)
	nack(t, q, "g", 1, 2, 60000, api.ErrReceipt)
	receive(t, q, "g", 1, of(3, 1))
	ack(t, q, "g", 1, 1, api.OK)
}

func TestExtendEndsAtItsTimeFromNow(t *testing.T) {
	for _, ms := range []int{1, 2, 9, 10, 11, 59999, 60000} {
		q := leased(t, 10)
		tick(t, q, 9, api.OK)
		extend(t, q, "g", 1, 1, ms, api.OK)
		ack(t, q, "g", 2, 1, api.OK)
		receive(t, q, "g", 2, each(3, 4, 1)...)
		ack(t, q, "g", 3, 1, api.OK)
		ack(t, q, "g", 4, 1, api.OK)
		tick(t, q, ms-1, api.OK)
		receive(t, q, "g", 32)
		tick(t, q, 1, api.OK)
		ack(t, q, "g", 1, 1, api.ErrReceipt)
		receive(t, q, "g", 32, of(1, 2))
	}
}

func TestExtendHoldsTheLeaseToTheLastMoment(t *testing.T) {
	for _, ms := range []int{1, 2, 10, 60000} {
		for after := max(ms-2, 0); after <= min(ms+1, 60000); after++ {
			q := leased(t, 10)
			extend(t, q, "g", 1, 1, ms, api.OK)
			tick(t, q, after, api.OK)
			want := api.OK
			if after >= ms {
				want = api.ErrReceipt
			}
			ack(t, q, "g", 1, 1, want)
		}
	}
}

func TestExtendMayMakeALeaseShorter(t *testing.T) {
	q := leased(t, 10)
	extend(t, q, "g", 1, 1, 60000, api.OK)
	extend(t, q, "g", 1, 1, 3, api.OK)
	tick(t, q, 2, api.OK)
	receive(t, q, "g", 1, of(3, 1))
	tick(t, q, 1, api.OK)
	receive(t, q, "g", 1, of(1, 2))
	// The new lease is as long as every other.
	tick(t, q, 9, api.OK)
	ack(t, q, "g", 1, 2, api.OK)
}

func TestExtendMayComeAgainAndAgain(t *testing.T) {
	q := leased(t, 2)
	for range 20 {
		tick(t, q, 9, api.OK)
		extend(t, q, "g", 1, 1, 10, api.OK)
	}
	receive(t, q, "g", 1, of(2, 2))
	ack(t, q, "g", 1, 1, api.OK)
}

func TestExtendRefusesWrongTimes(t *testing.T) {
	q := leased(t, 10)
	for _, ms := range append([]int{0, -1, -60000, 60001, 60002}, extremes...) {
		extend(t, q, "x", 1, 1, ms, api.ErrGroup)
		extend(t, q, "g", 1, 1, ms, api.ErrRange)
		// The time is named ahead of the offset and the try.
		extend(t, q, "g", 0, 1, ms, api.ErrRange)
		extend(t, q, "g", 5, 9, ms, api.ErrRange)
		extend(t, q, "g", 1, 2, ms, api.ErrRange)
	}
	extend(t, q, "g", 5, 9, 1, api.ErrOffset)
	extend(t, q, "g", 1, 2, 60000, api.ErrReceipt)
	tick(t, q, 9, api.OK)
	receive(t, q, "g", 1, of(3, 1))
	tick(t, q, 1, api.OK)
	receive(t, q, "g", 2, each(1, 2, 2)...)
}

func TestTickRefusesWrongTimes(t *testing.T) {
	q := leased(t, 10)
	for _, ms := range append([]int{-1, -2, -10, -60000, 60001, 60002, 120000}, extremes...) {
		tick(t, q, ms, api.ErrRange)
	}
	// No time went by: the lease ends when it would have.
	tick(t, q, 9, api.OK)
	extend(t, q, "g", 1, 1, 1, api.OK)
	receive(t, q, "g", 1, of(3, 1))
	tick(t, q, 1, api.OK)
	receive(t, q, "g", 2, each(1, 2, 2)...)
}

func TestTickMayBeNothing(t *testing.T) {
	q := leased(t, 10)
	for range 100 {
		tick(t, q, 0, api.OK)
	}
	receive(t, q, "g", 1, of(3, 1))
	ack(t, q, "g", 1, 1, api.OK)
}

func TestTickGoesOn(t *testing.T) {
	c := example
	c.Lease = 60000
	q := filled(t, c, 2)
	group(t, q, "g", 0, api.OK)
	for range 1000 {
		tick(t, q, 60000, api.OK)
	}
	receive(t, q, "g", 2, each(0, 1, 1)...)
	tick(t, q, 59999, api.OK)
	extend(t, q, "g", 0, 1, 60000, api.OK)
	receive(t, q, "g", 2)
	tick(t, q, 1, api.OK)
	receive(t, q, "g", 2, of(1, 2))
	tick(t, q, 59999, api.OK)
	receive(t, q, "g", 2, of(0, 2))
	// Step by step as well as at once.
	tick(t, q, 1, api.OK)
	for range 10 {
		ack(t, q, "g", 1, 2, api.ErrReceipt)
		tick(t, q, 5999, api.OK)
	}
	tick(t, q, 8, api.OK)
	nack(t, q, "g", 0, 2, 60000, api.OK)
	tick(t, q, 59999, api.OK)
	receive(t, q, "g", 2)
	dead(t, q, "g", of(1, 2))
	tick(t, q, 1, api.OK)
	receive(t, q, "g", 2)
	dead(t, q, "g", of(1, 2), of(0, 2))
}

func TestTickIsForAllGroups(t *testing.T) {
	q := filled(t, example, 2)
	names := []string{"a", "b", "c", "d", "e", "f"}
	for i, name := range names {
		group(t, q, name, i%2, api.OK)
		receive(t, q, name, 1, of(i%2, 1))
		extend(t, q, name, i%2, 1, 10+i, api.OK)
	}
	tick(t, q, 12, api.OK)
	for i, name := range names {
		want := api.OK
		if 10+i <= 12 {
			want = api.ErrReceipt
		}
		ack(t, q, name, i%2, 1, want)
	}
}
