package quay

import (
	"slices"
	"testing"

	"quay/api"
)

// drain takes offsets till there are none.
func drain(again, fresh <-chan int) []int {
	var list []int
	for {
		offset, found := next(again, fresh)
		if !found {
			return list
		}
		list = append(list, offset)
	}
}

func filled(offsets ...int) chan int {
	c := make(chan int, len(offsets))
	for _, offset := range offsets {
		c <- offset
	}
	return c
}

// A select over both would go right half of the time: hence the many runs.
func TestNextTakesFromTheFirstAsLongAsItHasSome(t *testing.T) {
	for range 100 {
		for _, c := range []struct{ again, fresh, want []int }{
			{nil, nil, nil},
			{[]int{4}, nil, []int{4}},
			{nil, []int{4}, []int{4}},
			{[]int{7, 8, 9}, []int{1, 2, 3}, []int{7, 8, 9, 1, 2, 3}},
			{[]int{0}, []int{1, 2, 3}, []int{0, 1, 2, 3}},
		} {
			if got := drain(filled(c.again...), filled(c.fresh...)); !slices.Equal(got, c.want) {
				t.Fatalf("of %v and %v: %v, want %v", c.again, c.fresh, got, c.want)
			}
		}
	}
}

// By calls alone, what was delivered before always lies ahead of what is new. Here it does not: only so is it seen that the order does not come from the offsets.
func TestReceiveLooksFirstAtWhatWasDeliveredBefore(t *testing.T) {
	q, _ := Open(api.Config{Lease: 10, Deliveries: 3, Segment: 2, Kept: 8}, "")
	for _, body := range []string{"a", "b", "c", "d", "e", "f", "g"} {
		q.Enqueue(body)
	}
	q.Group("g", 1)
	g := q.groups["g"]
	g.tries[3], g.tries[5], g.tries[6] = 1, 3, 2
	list, e := q.Receive("g", 3)
	want := []api.Delivery{{Offset: 3, Try: 2, Body: "d"}, {Offset: 6, Try: 3, Body: "g"}, {Offset: 1, Try: 1, Body: "b"}}
	if !slices.Equal(list, want) || e != api.OK {
		t.Errorf("Receive = %v, %d, want %v", list, e, want)
	}
	if buried, _ := q.Dead("g"); !slices.Equal(buried, []api.Delivery{{Offset: 5, Try: 3, Body: "f"}}) {
		t.Errorf("Dead = %v", buried)
	}
}
