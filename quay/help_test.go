package quay_test

import (
	"math"
	"slices"
	"strconv"
	"testing"

	"quay/api"
	"quay/quay"
)

// extremes: numbers that lie out of all bounds.
var extremes = []int{math.MinInt, math.MinInt + 1, -1 << 32, 1 << 32, 1<<32 + 1, math.MaxInt - 1, math.MaxInt}

// filled opens a queue and takes in messages, each with its offset as its body.
func filled(t *testing.T, c api.Config, messages int) *quay.Queue {
	t.Helper()
	q := open(t, c)
	for i := range messages {
		enqueue(t, q, strconv.Itoa(i), i)
	}
	return q
}

// of is a delivery of a message whose body is its offset.
func of(offset, try int) api.Delivery {
	return api.Delivery{Offset: offset, Try: try, Body: strconv.Itoa(offset)}
}

// each is deliveries by one try, of the messages from one to another, both included.
func each(from, to, try int) []api.Delivery {
	var list []api.Delivery
	for offset := from; offset <= to; offset++ {
		list = append(list, of(offset, try))
	}
	return list
}

// spoil writes a list full, its spare room too.
func spoil[T any](list []T, junk T) {
	list = list[:cap(list)]
	for i := range list {
		list[i] = junk
	}
}

// whole checks that a list that was spoilt still is, its spare room too.
func whole[T comparable](t *testing.T, list []T, junk T) {
	t.Helper()
	for i, x := range list[:cap(list)] {
		if x != junk {
			t.Fatalf("number %d of %d was written over: %v", i, cap(list), x)
		}
	}
}

func same[T comparable](t *testing.T, got, want []T) {
	t.Helper()
	if !slices.Equal(got, want) {
		t.Fatalf("got %v, want %v", got, want)
	}
}

// Every list that one of these three gets is checked, then spoilt: what comes behind would show whether it is shared.

func receive(t *testing.T, q *quay.Queue, name string, n int, want ...api.Delivery) {
	t.Helper()
	list, e := q.Receive(name, n)
	if !slices.Equal(list, want) || e != api.OK {
		t.Fatalf("Receive(%q, %d) = %v, %d, want %v, 0", name, n, list, e, want)
	}
	spoil(list, api.Delivery{Offset: -7, Try: -7, Body: "junk"})
}

func done(t *testing.T, q *quay.Queue, name string, want ...api.Range) {
	t.Helper()
	list, e := q.Done(name)
	if !slices.Equal(list, want) || e != api.OK {
		t.Fatalf("Done(%q) = %v, %d, want %v, 0", name, list, e, want)
	}
	spoil(list, api.Range{Low: -7, High: -7})
}

func dead(t *testing.T, q *quay.Queue, name string, want ...api.Delivery) {
	t.Helper()
	list, e := q.Dead(name)
	if !slices.Equal(list, want) || e != api.OK {
		t.Fatalf("Dead(%q) = %v, %d, want %v, 0", name, list, e, want)
	}
	spoil(list, api.Delivery{Offset: -7, Try: -7, Body: "junk"})
}

func ack(t *testing.T, q *quay.Queue, name string, offset, try int, want api.Errno) {
	t.Helper()
	if e := q.Ack(name, offset, try); e != want {
		t.Fatalf("Ack(%q, %d, %d) = %d, want %d", name, offset, try, e, want)
	}
}

func nack(t *testing.T, q *quay.Queue, name string, offset, try, delay int, want api.Errno) {
	t.Helper()
	if e := q.Nack(name, offset, try, delay); e != want {
		t.Fatalf("Nack(%q, %d, %d, %d) = %d, want %d", name, offset, try, delay, e, want)
	}
}

func extend(t *testing.T, q *quay.Queue, name string, offset, try, ms int, want api.Errno) {
	t.Helper()
	if e := q.Extend(name, offset, try, ms); e != want {
		t.Fatalf("Extend(%q, %d, %d, %d) = %d, want %d", name, offset, try, ms, e, want)
	}
}

func tick(t *testing.T, q *quay.Queue, ms int, want api.Errno) {
	t.Helper()
	if e := q.Tick(ms); e != want {
		t.Fatalf("Tick(%d) = %d, want %d", ms, e, want)
	}
}

// retain checks how many messages go, and that the floor goes on by as many, and the end not at all.
func retain(t *testing.T, q *quay.Queue, want int) {
	t.Helper()
	was := q.Span()
	if n := q.Retain(); n != want {
		t.Fatalf("Retain() = %d, want %d", n, want)
	}
	span(t, q, was.Low+want, was.High)
}

// take delivers the next message to a group, and acks it.
func take(t *testing.T, q *quay.Queue, name string, offset, try int) {
	t.Helper()
	receive(t, q, name, 1, of(offset, try))
	ack(t, q, name, offset, try, api.OK)
}
