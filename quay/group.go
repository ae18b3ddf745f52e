package quay

import (
	"maps"
	"slices"

	"quay/api"
	"quay/ranges"
)

// group is what a group has beside its name.
// Of a message with which it is done, no try and no wait is kept.
type group struct {
	start int
	done  []api.Range    // the offsets with which it is done, as a set
	dead  []api.Delivery // the one that died first first
	tries map[int]int    // by offset: how often a message was delivered
	waits map[int]wait   // by offset: what is leased, or may not be delivered yet
}

// wait is a time until which a message is not delivered: that of a lease, or of a delay.
type wait struct {
	until  int
	leased bool
}

func newGroup(start int) *group {
	return &group{start: start, tries: make(map[int]int), waits: make(map[int]wait)}
}

// lease leases a message until a time.
func (g *group) lease(offset, until int) {
	g.waits[offset] = wait{until: until, leased: true}
}

// wake deletes the waits that are over: what is not among them may be delivered, and is not leased.
func (g *group) wake(now int) {
	maps.DeleteFunc(g.waits, func(_ int, w wait) bool { return w.until <= now })
}

// finish says that the group is done with the messages from low to high, both included.
func (g *group) finish(low, high int) {
	// No error can come of it: what is done is a set, and offsets lie within the bounds.
	g.done, _ = ranges.Add(g.done, api.Range{Low: low, High: high})
	for offset := low; offset <= high; offset++ {
		delete(g.tries, offset)
		delete(g.waits, offset)
	}
}

// isDone tells whether the group is done with a message.
func (g *group) isDone(offset int) bool {
	in, _ := ranges.Has(g.done, offset)
	return in
}

// isDead tells whether a message is dead to the group.
func (g *group) isDead(offset int) bool {
	return slices.ContainsFunc(g.dead, func(d api.Delivery) bool { return d.Offset == offset })
}

// mark tells the least offset from the start on with which the group is not done.
func (g *group) mark() int {
	n, _ := ranges.Gap(g.done, g.start)
	return n
}
