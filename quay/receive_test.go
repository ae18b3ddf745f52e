package quay_test

import (
	"slices"
	"strings"
	"testing"

	"quay/api"
)

func TestExamplesTwoAndThree(t *testing.T) {
	q := open(t, example)
	for i, body := range []string{"a", "b", "c"} {
		enqueue(t, q, body, i)
	}
	group(t, q, "g", 1, api.OK)
	receive(t, q, "g", 9, api.Delivery{Offset: 1, Try: 1, Body: "b"}, api.Delivery{Offset: 2, Try: 1, Body: "c"})
	receive(t, q, "g", 9)
	ack(t, q, "g", 2, 1, api.OK)
	done(t, q, "g", api.Range{Low: 2, High: 2})
	tick(t, q, 9, api.OK)
	receive(t, q, "g", 9)
	tick(t, q, 1, api.OK)
	ack(t, q, "g", 1, 1, api.ErrReceipt)
	enqueue(t, q, "d", 3)
	receive(t, q, "g", 1, api.Delivery{Offset: 1, Try: 2, Body: "b"})
	nack(t, q, "g", 1, 2, 0, api.OK)
	receive(t, q, "g", 1, api.Delivery{Offset: 3, Try: 1, Body: "d"})
	dead(t, q, "g", api.Delivery{Offset: 1, Try: 2, Body: "b"})
	done(t, q, "g", api.Range{Low: 1, High: 2})

	retain(t, q, 2)
	span(t, q, 2, 4)
	group(t, q, "h", 1, api.ErrOffset)
	dead(t, q, "g", api.Delivery{Offset: 1, Try: 2, Body: "b"})
	done(t, q, "g", api.Range{Low: 1, High: 2})
}

// wide is the example's configuration with room for many messages.
func wide() api.Config {
	c := example
	c.Kept = 100
	return c
}

func TestReceiveDeliversAsManyAsAreAskedFor(t *testing.T) {
	for n := 1; n <= 32; n++ {
		q := filled(t, wide(), 70)
		group(t, q, "g", 0, api.OK)
		receive(t, q, "g", n, each(0, n-1, 1)...)
		receive(t, q, "g", n, each(n, 2*n-1, 1)...)
	}
}

func TestReceiveDeliversWhatIsThere(t *testing.T) {
	for messages := range 40 {
		q := filled(t, wide(), messages)
		group(t, q, "g", 0, api.OK)
		receive(t, q, "g", 32, each(0, min(messages, 32)-1, 1)...)
		receive(t, q, "g", 32, each(32, messages-1, 1)...)
		receive(t, q, "g", 32)
		enqueue(t, q, "late", messages)
		receive(t, q, "g", 32, api.Delivery{Offset: messages, Try: 1, Body: "late"})
	}
}

func TestReceiveRefusesWrongNumbers(t *testing.T) {
	q := filled(t, wide(), 40)
	group(t, q, "g", 0, api.OK)
	for _, n := range append([]int{0, -1, -32, 33, 34, 100, 400}, extremes...) {
		if list, e := q.Receive("g", n); len(list) != 0 || e != api.ErrRange {
			t.Errorf("Receive of %d = %v, %d, want nothing, %d", n, list, e, api.ErrRange)
		}
	}
	// None of them delivered anything.
	receive(t, q, "g", 32, each(0, 31, 1)...)
}

// strangers: names of groups that are not there beside "g".
func strangers() []string {
	return []string{"", "x", "G", "g ", " g", "g\x00", "gg", "\x00", "\xff", strings.Repeat("g", 16), strings.Repeat("g", 17), strings.Repeat("g", 1<<16)}
}

func TestReceiveNamesErrGroupFirst(t *testing.T) {
	q := filled(t, example, 3)
	for _, made := range []bool{false, true} {
		for _, name := range strangers() {
			for _, n := range append([]int{0, 1, 32, 33, -1}, extremes...) {
				if list, e := q.Receive(name, n); len(list) != 0 || e != api.ErrGroup {
					t.Errorf("Receive(%q, %d) = %v, %d, want nothing, %d", name, n, list, e, api.ErrGroup)
				}
			}
		}
		if !made {
			group(t, q, "g", 0, api.OK)
		}
	}
	receive(t, q, "g", 9, each(0, 2, 1)...)
}

func TestReceiveBeginsAtTheStart(t *testing.T) {
	for start := range 6 {
		q := filled(t, example, 5)
		group(t, q, "g", start, api.OK)
		receive(t, q, "g", 32, each(start, 4, 1)...)
		for offset := start; offset < 5; offset++ {
			nack(t, q, "g", offset, 1, 0, api.OK)
		}
		receive(t, q, "g", 32, each(start, 4, 2)...)
	}
}

func TestReceiveBeginsAtTheFloor(t *testing.T) {
	q := filled(t, example, 5)
	group(t, q, "g", 1, api.OK)
	receive(t, q, "g", 3, each(1, 3, 1)...)
	ack(t, q, "g", 1, 1, api.OK)
	ack(t, q, "g", 2, 1, api.OK)
	retain(t, q, 2)
	tick(t, q, 10, api.OK)
	receive(t, q, "g", 32, of(3, 2), of(4, 1))
	group(t, q, "h", 2, api.OK)
	receive(t, q, "h", 32, each(2, 4, 1)...)
}

func TestReceivePassesByWhatIsDoneLeasedOrNotYetDue(t *testing.T) {
	q := filled(t, wide(), 8)
	group(t, q, "g", 0, api.OK)
	receive(t, q, "g", 6, each(0, 5, 1)...)
	ack(t, q, "g", 0, 1, api.OK)
	ack(t, q, "g", 3, 1, api.OK)
	nack(t, q, "g", 1, 1, 5, api.OK)
	nack(t, q, "g", 4, 1, 0, api.OK)
	// 0 and 3 are done, 1 is not yet due, 2 and 5 are leased.
	receive(t, q, "g", 32, of(4, 2), of(6, 1), of(7, 1))
	tick(t, q, 5, api.OK)
	receive(t, q, "g", 32, of(1, 2))
	tick(t, q, 5, api.OK)
	// The leases of the first Receive are over, and those of the second.
	receive(t, q, "g", 32, of(2, 2), of(5, 2), of(6, 2), of(7, 2))
	done(t, q, "g", api.Range{Low: 0, High: 0}, api.Range{Low: 3, High: 4})
	dead(t, q, "g", of(4, 2))
}

func TestReceiveBringsWhatComesAgainAheadOfWhatIsNew(t *testing.T) {
	c := wide()
	c.Deliveries = 10
	q := filled(t, c, 10)
	group(t, q, "g", 0, api.OK)
	receive(t, q, "g", 6, each(0, 5, 1)...)
	// By their offsets, not in the order in which they were given back.
	for _, offset := range []int{5, 1, 3} {
		nack(t, q, "g", offset, 1, 0, api.OK)
	}
	receive(t, q, "g", 2, of(1, 2), of(3, 2))
	receive(t, q, "g", 2, of(5, 2), of(6, 1))
	// By their offsets, not by how often they were delivered.
	nack(t, q, "g", 6, 1, 0, api.OK)
	nack(t, q, "g", 3, 2, 0, api.OK)
	nack(t, q, "g", 0, 1, 0, api.OK)
	receive(t, q, "g", 32, of(0, 2), of(3, 3), of(6, 2), of(7, 1), of(8, 1), of(9, 1))
}

// A choice among two channels that both have some would come to light in one run of many.
func TestReceiveIsTheSameInEveryRun(t *testing.T) {
	c := wide()
	c.Deliveries = 10
	for range 50 {
		q := filled(t, c, 60)
		group(t, q, "g", 0, api.OK)
		receive(t, q, "g", 20, each(0, 19, 1)...)
		tick(t, q, 10, api.OK)
		receive(t, q, "g", 32, slices.Concat(each(0, 19, 2), each(20, 31, 1))...)
		tick(t, q, 10, api.OK)
		receive(t, q, "g", 32, slices.Concat(each(0, 19, 3), each(20, 31, 2))...)
		receive(t, q, "g", 32, each(32, 59, 1)...)
	}
}

func TestReceiveDeliversAsOftenAsDeliveriesSays(t *testing.T) {
	for deliveries := 1; deliveries <= 10; deliveries++ {
		c := example
		c.Deliveries = deliveries
		q := filled(t, c, 1)
		group(t, q, "g", 0, api.OK)
		for try := 1; try <= deliveries; try++ {
			receive(t, q, "g", 1, of(0, try))
			// By a lease that is over, or by a Nack: both count.
			if try%2 == 0 {
				nack(t, q, "g", 0, try, 0, api.OK)
			} else {
				tick(t, q, 10, api.OK)
			}
			dead(t, q, "g")
			done(t, q, "g")
		}
		for range 3 {
			receive(t, q, "g", 1)
			dead(t, q, "g", of(0, deliveries))
			done(t, q, "g", api.Range{Low: 0, High: 0})
			tick(t, q, 10, api.OK)
		}
		for try := range deliveries + 2 {
			ack(t, q, "g", 0, try, api.ErrReceipt)
		}
	}
}

func TestReceiveMayAckTheLastDelivery(t *testing.T) {
	q := filled(t, example, 1)
	group(t, q, "g", 0, api.OK)
	receive(t, q, "g", 1, of(0, 1))
	tick(t, q, 10, api.OK)
	receive(t, q, "g", 1, of(0, 2))
	tick(t, q, 9, api.OK)
	// As long as the last lease lasts it is not dead.
	receive(t, q, "g", 1)
	dead(t, q, "g")
	ack(t, q, "g", 0, 2, api.OK)
	tick(t, q, 10, api.OK)
	receive(t, q, "g", 1)
	dead(t, q, "g")
	done(t, q, "g", api.Range{Low: 0, High: 0})
}

func TestReceiveDoesNotBuryAheadOfTheDelay(t *testing.T) {
	c := example
	c.Deliveries = 1
	q := filled(t, c, 1)
	group(t, q, "g", 0, api.OK)
	receive(t, q, "g", 1, of(0, 1))
	nack(t, q, "g", 0, 1, 30, api.OK)
	tick(t, q, 29, api.OK)
	receive(t, q, "g", 1)
	dead(t, q, "g")
	tick(t, q, 1, api.OK)
	// Time alone lets none die.
	dead(t, q, "g")
	receive(t, q, "g", 1)
	dead(t, q, "g", of(0, 1))
}

func TestReceiveDoesNotCountTheDead(t *testing.T) {
	c := wide()
	c.Deliveries = 1
	for n := 1; n <= 32; n++ {
		q := filled(t, c, 80)
		group(t, q, "g", 0, api.OK)
		receive(t, q, "g", 32, each(0, 31, 1)...)
		tick(t, q, 10, api.OK)
		receive(t, q, "g", n, each(32, 31+n, 1)...)
		dead(t, q, "g", each(0, 31, 1)...)
		done(t, q, "g", api.Range{Low: 0, High: 31})
	}
}

func TestReceiveBuriesOnlyAheadOfTheLastDelivery(t *testing.T) {
	q := filled(t, wide(), 8)
	group(t, q, "g", 0, api.OK)
	receive(t, q, "g", 4, each(0, 3, 1)...)
	for _, offset := range []int{0, 1, 3} {
		nack(t, q, "g", offset, 1, 0, api.OK)
	}
	receive(t, q, "g", 3, of(0, 2), of(1, 2), of(3, 2))
	tick(t, q, 10, api.OK)
	// 0, 1 and 3 have no delivery left, 2 has one: when it is made, 3 is not looked at.
	receive(t, q, "g", 1, of(2, 2))
	dead(t, q, "g", of(0, 2), of(1, 2))
	done(t, q, "g", api.Range{Low: 0, High: 1})
	// 3 dies in a Receive that delivers a new one.
	receive(t, q, "g", 1, of(4, 1))
	dead(t, q, "g", of(0, 2), of(1, 2), of(3, 2))
	done(t, q, "g", api.Range{Low: 0, High: 1}, api.Range{Low: 3, High: 3})
	tick(t, q, 10, api.OK)
	receive(t, q, "g", 32, of(4, 2), of(5, 1), of(6, 1), of(7, 1))
	dead(t, q, "g", of(0, 2), of(1, 2), of(3, 2), of(2, 2))
	done(t, q, "g", api.Range{Low: 0, High: 3})
}

func TestReceiveMayBuryAndDeliverNothing(t *testing.T) {
	c := example
	c.Deliveries = 1
	q := filled(t, c, 3)
	group(t, q, "g", 0, api.OK)
	receive(t, q, "g", 3, each(0, 2, 1)...)
	tick(t, q, 10, api.OK)
	receive(t, q, "g", 1)
	dead(t, q, "g", each(0, 2, 1)...)
	done(t, q, "g", api.Range{Low: 0, High: 2})
}

func TestReceiveLeasesForAsLongAsLeaseSays(t *testing.T) {
	for _, lease := range []int{1, 2, 3, 10, 59999, 60000} {
		for _, wait := range []int{0, 7, 60000} {
			c := example
			c.Lease = lease
			q := filled(t, c, 2)
			group(t, q, "g", 0, api.OK)
			tick(t, q, wait, api.OK)
			receive(t, q, "g", 1, of(0, 1))
			tick(t, q, lease-1, api.OK)
			receive(t, q, "g", 1, of(1, 1))
			receive(t, q, "g", 1)
			tick(t, q, 1, api.OK)
			ack(t, q, "g", 0, 1, api.ErrReceipt)
			receive(t, q, "g", 1, of(0, 2))
			// Each delivery has a lease of its own: that of 1 began later than the first of 0, and ahead of the second.
			if lease == 1 {
				ack(t, q, "g", 1, 1, api.ErrReceipt)
				continue
			}
			tick(t, q, lease-2, api.OK)
			nack(t, q, "g", 1, 1, 0, api.OK)
			receive(t, q, "g", 1, of(1, 2))
			tick(t, q, 1, api.OK)
			ack(t, q, "g", 0, 2, api.OK)
			ack(t, q, "g", 1, 2, api.OK)
		}
	}
}

func TestReceiveKeepsGroupsApart(t *testing.T) {
	q := filled(t, example, 4)
	group(t, q, "g", 0, api.OK)
	group(t, q, "h", 0, api.OK)
	group(t, q, "i", 2, api.OK)
	receive(t, q, "g", 3, each(0, 2, 1)...)
	receive(t, q, "h", 2, each(0, 1, 1)...)
	ack(t, q, "h", 2, 1, api.ErrReceipt)
	ack(t, q, "i", 2, 1, api.ErrReceipt)
	nack(t, q, "g", 0, 1, 0, api.OK)
	receive(t, q, "g", 1, of(0, 2))
	ack(t, q, "h", 0, 2, api.ErrReceipt)
	ack(t, q, "g", 0, 1, api.ErrReceipt)
	ack(t, q, "h", 0, 1, api.OK)
	done(t, q, "g")
	done(t, q, "h", api.Range{Low: 0, High: 0})
	done(t, q, "i")
	tick(t, q, 10, api.OK)
	receive(t, q, "g", 1, of(1, 2))
	dead(t, q, "g", of(0, 2))
	dead(t, q, "h")
	dead(t, q, "i")
	receive(t, q, "h", 9, of(1, 2), of(2, 1), of(3, 1))
	receive(t, q, "i", 9, of(2, 1), of(3, 1))
}

func TestReceiveTellsBodiesAsTheyCame(t *testing.T) {
	bodies := []string{"", "\x00", "\xff\xfe", strings.Repeat("x", 64), "ä\n"}
	q := open(t, example)
	group(t, q, "g", 0, api.OK)
	var want []api.Delivery
	for i, body := range bodies {
		enqueue(t, q, body, i)
		want = append(want, api.Delivery{Offset: i, Try: 1, Body: body})
	}
	receive(t, q, "g", 32, want...)
	for i := range want {
		nack(t, q, "g", i, 1, 0, api.OK)
		want[i].Try = 2
	}
	receive(t, q, "g", 32, want...)
	tick(t, q, 10, api.OK)
	receive(t, q, "g", 32)
	dead(t, q, "g", want...)
	retain(t, q, 4)
	dead(t, q, "g", want...)
}
