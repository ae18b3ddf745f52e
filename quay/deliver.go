package quay

import "quay/api"

// ready tells the offsets of all messages that a group may be delivered now, in their order:
// those that come again, and those that were never delivered to it.
func (q *Queue) ready(g *group) (again, fresh chan int) {
	// With room for all, no send waits.
	again, fresh = make(chan int, len(q.bodies)), make(chan int, len(q.bodies))
	for offset := q.first(g); offset < q.end(); offset++ {
		if _, waits := g.waits[offset]; waits || g.isDone(offset) {
			continue
		}
		if g.tries[offset] > 0 {
			again <- offset
		} else {
			fresh <- offset
		}
	}
	return again, fresh
}

// next takes an offset, from fresh only if again has none. One select over both would choose by chance.
func next(again, fresh <-chan int) (int, bool) {
	select {
	case offset := <-again:
		return offset, true
	default:
	}
	select {
	case offset := <-fresh:
		return offset, true
	default:
		return 0, false
	}
}

// serve delivers a message to a group, or lays it aside; it tells whether it was delivered.
func (q *Queue) serve(g *group, offset int) (api.Delivery, bool) {
	if g.tries[offset] >= q.config.Deliveries {
		q.bury(g, offset)
		return api.Delivery{}, false
	}
	return q.deliver(g, offset), true
}

// deliver delivers a message to a group once more, and leases it.
func (q *Queue) deliver(g *group, offset int) api.Delivery {
	g.tries[offset]++
	g.lease(offset, q.now+q.config.Lease)
	return q.delivery(g, offset)
}

// bury lays a message aside that was delivered to a group too often.
func (q *Queue) bury(g *group, offset int) {
	// The body is kept with it: Dead tells it when the message is kept no more.
	g.dead = append(g.dead, q.delivery(g, offset))
	g.finish(offset, offset)
}

// delivery tells a message as a group was delivered it last.
func (q *Queue) delivery(g *group, offset int) api.Delivery {
	return api.Delivery{Offset: offset, Try: g.tries[offset], Body: q.bodies[offset-q.floor]}
}
