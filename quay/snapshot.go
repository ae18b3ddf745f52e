package quay

import (
	"maps"
	"slices"

	"quay/api"
)

// finished stands in a snapshot for a message with which a group is done, where else its tries stand.
const finished = 255

// snapshot tells all that is kept but the time, leases and delays: the floor, the bodies, the groups.
func (q *Queue) snapshot() []byte {
	data := putNumbers(nil, q.floor, len(q.bodies))
	for _, body := range q.bodies {
		data = putText(data, body)
	}
	data = putNumbers(data, len(q.groups))
	for _, name := range slices.Sorted(maps.Keys(q.groups)) {
		data = q.putGroup(putText(data, name), q.groups[name])
	}
	return data
}

// putGroup writes a group behind other data: its start, a byte for each message it may have, what is dead to it.
// What lies between its start and the floor needs none: it is done with all of it.
func (q *Queue) putGroup(data []byte, g *group) []byte {
	data = putNumbers(data, g.start)
	for offset := q.first(g); offset < q.end(); offset++ {
		if g.isDone(offset) {
			data = append(data, finished)
		} else {
			data = append(data, byte(g.tries[offset]))
		}
	}
	data = putNumbers(data, len(g.dead))
	for _, d := range g.dead {
		data = putText(putNumbers(data, d.Offset), d.Body)
	}
	return data
}

// load makes a new queue what a snapshot tells; it tells whether that is one.
func (q *Queue) load(data string) bool {
	r := &reader{rest: data}
	q.floor = r.number()
	if q.floor > api.MaxOffset || q.floor%q.config.Segment != 0 {
		return false
	}
	for range r.number() {
		if _, e := q.keep(r.text()); e != api.OK {
			return false
		}
	}
	for range r.number() {
		if !q.loadGroup(r) {
			return false
		}
	}
	return r.ended()
}

// loadGroup reads a group.
func (q *Queue) loadGroup(r *reader) bool {
	name, start := r.text(), r.number()
	if q.join(name, start, 0) != api.OK {
		return false
	}
	g := q.groups[name]
	if start < q.floor {
		g.finish(start, q.floor-1)
	}
	for offset := q.first(g); offset < q.end(); offset++ {
		if !g.setTries(offset, r.small(), q.config.Deliveries) {
			return false
		}
	}
	for range r.number() {
		if !q.loadDead(r, g) {
			return false
		}
	}
	return true
}

// setTries sets what a snapshot tells of a message; it tells whether it may.
func (g *group) setTries(offset, tries, most int) bool {
	switch {
	case tries == finished:
		g.finish(offset, offset)
	case tries > most:
		return false
	case tries > 0:
		g.tries[offset] = tries
	}
	return true
}

// loadDead reads a message that is dead to a group.
func (q *Queue) loadDead(r *reader, g *group) bool {
	// None dies but by its last delivery: its try need not be written.
	d := api.Delivery{Offset: r.number(), Body: r.text(), Try: q.config.Deliveries}
	if !g.isDone(d.Offset) || g.isDead(d.Offset) || len(d.Body) > api.MaxBody {
		return false
	}
	if d.Offset >= q.floor && d.Body != q.bodies[d.Offset-q.floor] {
		return false
	}
	g.dead = append(g.dead, d)
	return true
}
