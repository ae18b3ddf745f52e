package quay

import (
	"errors"
	"strings"

	"quay/api"
)

// restore makes a new queue what it was when its log was told.
func (q *Queue) restore(log string) error {
	s := scanner{reader: reader{rest: log}, sum: q.log.sum}
	for s.rest != "" {
		first := s.rest[0]
		kind, data, err := s.record()
		if errors.Is(err, errCut) && mayBeCut(first) {
			break
		}
		if err != nil {
			return err
		}
		if !q.replay(kind, data) {
			return errWrong
		}
		q.log.add(kind, data)
	}
	// A crash ends all leases.
	for _, g := range q.groups {
		clear(g.waits)
	}
	return nil
}

// replay makes what a record tells; it tells whether that can be made.
// A sum may be right by chance, or by design: so a record is held against the queue all the same.
func (q *Queue) replay(kind byte, data string) bool {
	switch kind {
	case enqueued:
		_, e := q.keep(strings.Clone(data))
		return e == api.OK
	case retained:
		return data == "" && q.release() > 0
	case compacted:
		return len(q.log.text) == 0 && q.load(data)
	}
	r := reader{rest: data}
	name := r.text()
	offsets := r.numbers()
	return r.ended() && q.replayNamed(kind, name, offsets)
}

// replayNamed is replay of a record of a group's name, and offsets.
func (q *Queue) replayNamed(kind byte, name string, offsets []int) bool {
	if kind == received {
		return q.serveAgain(name, offsets)
	}
	if len(offsets) != 1 {
		return false
	}
	switch kind {
	case joined:
		return q.join(name, offsets[0], q.floor) == api.OK
	case acked:
		return q.ackAgain(name, offsets[0])
	}
	return false
}

// serveAgain makes what a Receive made.
func (q *Queue) serveAgain(name string, offsets []int) bool {
	g := q.groups[name]
	if g == nil || len(offsets) == 0 {
		return false
	}
	for _, offset := range offsets {
		if !q.has(g, offset) || g.isDone(offset) {
			return false
		}
		q.serve(g, offset)
	}
	return true
}

// ackAgain makes what an Ack made.
func (q *Queue) ackAgain(name string, offset int) bool {
	g := q.groups[name]
	// What has no try was never delivered, or is done.
	if g == nil || g.tries[offset] == 0 {
		return false
	}
	g.finish(offset, offset)
	return true
}
