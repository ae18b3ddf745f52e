package quay

import "quay/api"

// What a call changes that its record tells of: the call makes it and writes it down, Open makes it again from what is written.

// keep takes a message in.
func (q *Queue) keep(body string) (int, api.Errno) {
	if len(body) > api.MaxBody {
		return 0, api.ErrLong
	}
	offset := q.end()
	if offset >= api.MaxOffset {
		return 0, api.ErrEnd
	}
	if len(q.bodies) >= q.config.Kept {
		return 0, api.ErrFull
	}
	q.bodies = append(q.bodies, body)
	return offset, api.OK
}

// join makes a group that starts not ahead of an offset.
func (q *Queue) join(name string, from, least int) api.Errno {
	if !isName(name) {
		return api.ErrName
	}
	if q.groups[name] != nil {
		return api.ErrTwice
	}
	if len(q.groups) >= api.MaxGroups {
		return api.ErrMany
	}
	if !between(from, least, q.end()) {
		return api.ErrOffset
	}
	q.groups[name] = newGroup(from)
	return api.OK
}

// release lets go what all groups are done with, and tells how many messages these are.
func (q *Queue) release() int {
	if len(q.groups) == 0 {
		return 0
	}
	mark := q.end()
	for _, g := range q.groups {
		mark = min(mark, g.mark())
	}
	floor := mark - mark%q.config.Segment
	if floor <= q.floor {
		return 0
	}
	gone := floor - q.floor
	// What is cut off still lies in memory: cleared, it holds no body there.
	clear(q.bodies[:gone])
	q.bodies = q.bodies[gone:]
	q.floor = floor
	return gone
}
