package quay_test

import (
	"testing"

	"quay/api"
)

func TestDoneAndDeadNeedAGroup(t *testing.T) {
	q := filled(t, example, 2)
	group(t, q, "g", 0, api.OK)
	take(t, q, "g", 0, 1)
	for _, name := range strangers() {
		if list, e := q.Done(name); len(list) != 0 || e != api.ErrGroup {
			t.Errorf("Done(%q) = %v, %d, want nothing, %d", name, list, e, api.ErrGroup)
		}
		if list, e := q.Dead(name); len(list) != 0 || e != api.ErrGroup {
			t.Errorf("Dead(%q) = %v, %d, want nothing, %d", name, list, e, api.ErrGroup)
		}
	}
	done(t, q, "g", api.Range{Low: 0, High: 0})
	dead(t, q, "g")
}

func TestDoneIsASet(t *testing.T) {
	// Every choice of eight messages.
	for bits := range 1 << 8 {
		q := filled(t, wide(), 10)
		group(t, q, "g", 1, api.OK)
		receive(t, q, "g", 8, each(1, 8, 1)...)
		var want []api.Range
		for i := range 8 {
			if bits>>i&1 == 0 {
				continue
			}
			offset := i + 1
			ack(t, q, "g", offset, 1, api.OK)
			if n := len(want); n > 0 && want[n-1].High == offset-1 {
				want[n-1].High = offset
			} else {
				want = append(want, api.Range{Low: offset, High: offset})
			}
		}
		done(t, q, "g", want...)
		done(t, q, "g", want...)
	}
}

func TestDoneDoesNotHangOnTheOrder(t *testing.T) {
	q := filled(t, wide(), 9)
	group(t, q, "g", 0, api.OK)
	receive(t, q, "g", 9, each(0, 8, 1)...)
	for _, step := range []struct {
		offset int
		want   []api.Range
	}{
		{8, []api.Range{{Low: 8, High: 8}}},
		{0, []api.Range{{Low: 0, High: 0}, {Low: 8, High: 8}}},
		{4, []api.Range{{Low: 0, High: 0}, {Low: 4, High: 4}, {Low: 8, High: 8}}},
		{5, []api.Range{{Low: 0, High: 0}, {Low: 4, High: 5}, {Low: 8, High: 8}}},
		{3, []api.Range{{Low: 0, High: 0}, {Low: 3, High: 5}, {Low: 8, High: 8}}},
		{1, []api.Range{{Low: 0, High: 1}, {Low: 3, High: 5}, {Low: 8, High: 8}}},
		{2, []api.Range{{Low: 0, High: 5}, {Low: 8, High: 8}}},
		{7, []api.Range{{Low: 0, High: 5}, {Low: 7, High: 8}}},
		{6, []api.Range{{Low: 0, High: 8}}},
	} {
		ack(t, q, "g", step.offset, 1, api.OK)
		done(t, q, "g", step.want...)
	}
}

func TestDoneAndDeadStayWhenMessagesGo(t *testing.T) {
	q := filled(t, example, 5)
	group(t, q, "g", 1, api.OK)
	receive(t, q, "g", 1, of(1, 1))
	nack(t, q, "g", 1, 1, 0, api.OK)
	receive(t, q, "g", 3, of(1, 2), of(2, 1), of(3, 1))
	ack(t, q, "g", 3, 1, api.OK)
	tick(t, q, 10, api.OK)
	receive(t, q, "g", 1, of(2, 2))
	ack(t, q, "g", 2, 2, api.OK)
	for range 2 {
		done(t, q, "g", api.Range{Low: 1, High: 3})
		dead(t, q, "g", of(1, 2))
		q.Retain()
		span(t, q, 4, 5)
	}
	// What comes into their place does not change them.
	for i := 5; i < 9; i++ {
		enqueue(t, q, "other", i)
	}
	done(t, q, "g", api.Range{Low: 1, High: 3})
	dead(t, q, "g", of(1, 2))
	take(t, q, "g", 4, 1)
	done(t, q, "g", api.Range{Low: 1, High: 4})
}

func TestDeadAreInTheOrderOfDying(t *testing.T) {
	q := filled(t, wide(), 5)
	group(t, q, "g", 0, api.OK)
	receive(t, q, "g", 5, each(0, 4, 1)...)
	// One after the other is delivered twice, and dies.
	var want []api.Delivery
	for _, offset := range []int{3, 0, 4, 1} {
		nack(t, q, "g", offset, 1, 0, api.OK)
		receive(t, q, "g", 1, of(offset, 2))
		nack(t, q, "g", offset, 2, 0, api.OK)
		dead(t, q, "g", want...)
		receive(t, q, "g", 1)
		want = append(want, of(offset, 2))
		dead(t, q, "g", want...)
	}
	done(t, q, "g", api.Range{Low: 0, High: 1}, api.Range{Low: 3, High: 4})
	ack(t, q, "g", 2, 1, api.OK)
	retain(t, q, 4)
	dead(t, q, "g", want...)
}

func TestDeadOfTwoGroups(t *testing.T) {
	c := example
	c.Deliveries = 1
	q := filled(t, c, 4)
	group(t, q, "g", 0, api.OK)
	group(t, q, "h", 2, api.OK)
	receive(t, q, "g", 3, each(0, 2, 1)...)
	receive(t, q, "h", 2, each(2, 3, 1)...)
	ack(t, q, "h", 2, 1, api.OK)
	tick(t, q, 10, api.OK)
	receive(t, q, "g", 1, of(3, 1))
	receive(t, q, "h", 1)
	dead(t, q, "g", each(0, 2, 1)...)
	dead(t, q, "h", of(3, 1))
	done(t, q, "g", api.Range{Low: 0, High: 2})
	done(t, q, "h", api.Range{Low: 2, High: 3})
	// What is dead to one may be acked by the other.
	ack(t, q, "g", 3, 1, api.OK)
	dead(t, q, "g", each(0, 2, 1)...)
	retain(t, q, 4)
	dead(t, q, "h", of(3, 1))
}

func TestListsAreTheCallersOwn(t *testing.T) {
	c := wide()
	c.Deliveries = 1
	q := filled(t, c, 40)
	group(t, q, "g", 0, api.OK)
	got, _ := q.Receive("g", 32)
	tick(t, q, 10, api.OK)
	more, _ := q.Receive("g", 5)
	for i := 32; i < 37; i += 2 {
		ack(t, q, "g", i, 1, api.OK)
	}
	d1, _ := q.Done("g")
	d2, _ := q.Done("g")
	e1, _ := q.Dead("g")
	e2, _ := q.Dead("g")
	// What was answered ahead is written full: nothing of what was answered behind it changes.
	spoil(got, api.Delivery{Offset: -1})
	spoil(d1, api.Range{Low: -1})
	spoil(e1, api.Delivery{Offset: -1})
	same(t, more, each(32, 36, 1))
	same(t, d2, []api.Range{{Low: 0, High: 32}, {Low: 34, High: 34}, {Low: 36, High: 36}})
	same(t, e2, each(0, 31, 1))
	spoil(more, api.Delivery{Offset: -2})
	spoil(d2, api.Range{Low: -2})
	spoil(e2, api.Delivery{Offset: -2})
	done(t, q, "g", api.Range{Low: 0, High: 32}, api.Range{Low: 34, High: 34}, api.Range{Low: 36, High: 36})
	dead(t, q, "g", each(0, 31, 1)...)
	// Nor does the queue write into what it answered: into the spare room neither.
	d3, _ := q.Done("g")
	e3, _ := q.Dead("g")
	spoil(d3, api.Range{Low: -3})
	spoil(e3, api.Delivery{Offset: -3})
	tick(t, q, 10, api.OK)
	receive(t, q, "g", 1, of(37, 1))
	ack(t, q, "g", 37, 1, api.OK)
	retain(t, q, 38)
	whole(t, d3, api.Range{Low: -3})
	whole(t, e3, api.Delivery{Offset: -3})
}
