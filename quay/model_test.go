package quay_test

import (
	"fmt"
	"slices"
	"strings"

	"quay/api"
)

// model is the queue of the document, written down word by word, with nothing thrown away:
// what package quay answers is held against it.
type model struct {
	config api.Config
	now    int
	floor  int
	bodies []string // of all messages that were ever taken
	takers []*taker
}

// taker is a group.
type taker struct {
	name  string
	start int
	of    [api.MaxOffset]state
	dead  []api.Delivery
}

// state is what a group has of a message.
type state struct {
	tries  int
	done   bool
	leased bool
	until  int // the end of the lease
	from   int // from when on it may be delivered
}

func (m *model) taker(name string) *taker {
	for _, k := range m.takers {
		if k.name == name {
			return k
		}
	}
	return nil
}

// clone tells a model that stays as this one is now.
func (m *model) clone() *model {
	c := *m
	c.bodies, c.takers = slices.Clone(m.bodies), nil
	for _, k := range m.takers {
		x := *k
		x.dead = slices.Clone(k.dead)
		c.takers = append(c.takers, &x)
	}
	return &c
}

// Crash does what is done by a crash behind which the whole log is found.
func (m *model) Crash() {
	m.now = 0
	for _, k := range m.takers {
		for offset := range k.of {
			s := &k.of[offset]
			s.leased, s.until, s.from = false, 0, 0
		}
	}
}

// Compact does nothing that a caller sees but in the log.
func (m *model) Compact() {}

// lasting tells all that a log must tell.
func (m *model) lasting() string {
	c := m.clone()
	c.Crash()
	var b strings.Builder
	fmt.Fprintf(&b, "%d %q", c.floor, c.bodies)
	for _, k := range c.takers {
		fmt.Fprintf(&b, " %q %d %v %v", k.name, k.start, k.of[:len(c.bodies)], k.dead)
	}
	return b.String()
}

// room tells how long a log may be that Compact wrote.
func (m *model) room() int {
	n := 64
	for _, k := range m.takers {
		n += 32 + len(k.name)
		for _, d := range k.dead {
			n += 8 + len(d.Body)
		}
	}
	for _, body := range m.bodies[m.floor:] {
		n += 8 + len(body) + 4*len(m.takers)
	}
	return n
}

func (m *model) kept(offset int) bool { return offset >= m.floor && offset < len(m.bodies) }

func (m *model) isLeased(s state) bool { return s.leased && !(m.now >= s.until) }

func (m *model) Enqueue(body string) (int, api.Errno) {
	switch {
	case len(body) > 64:
		return 0, api.ErrLong
	case len(m.bodies) == 400:
		return 0, api.ErrEnd
	case len(m.bodies)-m.floor == m.config.Kept:
		return 0, api.ErrFull
	}
	m.bodies = append(m.bodies, body)
	return len(m.bodies) - 1, api.OK
}

func (m *model) Group(name string, from int) api.Errno {
	switch {
	case len(name) == 0 || len(name) > 16:
		return api.ErrName
	case m.taker(name) != nil:
		return api.ErrTwice
	case len(m.takers) == 6:
		return api.ErrMany
	case from < m.floor || from > len(m.bodies):
		return api.ErrOffset
	}
	m.takers = append(m.takers, &taker{name: name, start: from})
	return api.OK
}

func (m *model) Receive(group string, n int) ([]api.Delivery, api.Errno) {
	k := m.taker(group)
	if k == nil {
		return nil, api.ErrGroup
	}
	if n < 1 || n > 32 {
		return nil, api.ErrRange
	}
	var before, others []int
	for offset := range m.bodies {
		switch {
		case !m.kept(offset) || offset < k.start:
		case k.of[offset].tries > 0:
			before = append(before, offset)
		default:
			others = append(others, offset)
		}
	}
	var list []api.Delivery
	for _, offset := range slices.Concat(before, others) {
		if len(list) == n {
			break
		}
		s := &k.of[offset]
		if s.done || m.isLeased(*s) || m.now < s.from {
			continue
		}
		if s.tries == m.config.Deliveries {
			s.done = true
			k.dead = append(k.dead, api.Delivery{Offset: offset, Try: s.tries, Body: m.bodies[offset]})
			continue
		}
		s.tries++
		s.leased, s.until = true, m.now+m.config.Lease
		list = append(list, api.Delivery{Offset: offset, Try: s.tries, Body: m.bodies[offset]})
	}
	return list, api.OK
}

// leased tells what a group has of a message, or why it may not settle it.
func (m *model) leased(k *taker, offset, try int) (*state, api.Errno) {
	if !m.kept(offset) || offset < k.start {
		return nil, api.ErrOffset
	}
	s := &k.of[offset]
	if !m.isLeased(*s) || s.tries != try {
		return nil, api.ErrReceipt
	}
	return s, api.OK
}

func (m *model) Ack(group string, offset int, try int) api.Errno {
	k := m.taker(group)
	if k == nil {
		return api.ErrGroup
	}
	s, e := m.leased(k, offset, try)
	if e == api.OK {
		s.done, s.leased = true, false
	}
	return e
}

func (m *model) Nack(group string, offset int, try int, delay int) api.Errno {
	k := m.taker(group)
	if k == nil {
		return api.ErrGroup
	}
	if delay < 0 || delay > 60000 {
		return api.ErrRange
	}
	s, e := m.leased(k, offset, try)
	if e == api.OK {
		s.leased, s.from = false, m.now+delay
	}
	return e
}

func (m *model) Extend(group string, offset int, try int, ms int) api.Errno {
	k := m.taker(group)
	if k == nil {
		return api.ErrGroup
	}
	if ms < 1 || ms > 60000 {
		return api.ErrRange
	}
	s, e := m.leased(k, offset, try)
	if e == api.OK {
		s.until = m.now + ms
	}
	return e
}

func (m *model) Tick(ms int) api.Errno {
	if ms < 0 || ms > 60000 {
		return api.ErrRange
	}
	m.now += ms
	return api.OK
}

func (m *model) Done(group string) ([]api.Range, api.Errno) {
	k := m.taker(group)
	if k == nil {
		return nil, api.ErrGroup
	}
	var set []api.Range
	for offset := range m.bodies {
		switch n := len(set); {
		case !k.of[offset].done:
		case n > 0 && set[n-1].High == offset-1:
			set[n-1].High = offset
		default:
			set = append(set, api.Range{Low: offset, High: offset})
		}
	}
	return set, api.OK
}

func (m *model) Dead(group string) ([]api.Delivery, api.Errno) {
	k := m.taker(group)
	if k == nil {
		return nil, api.ErrGroup
	}
	return slices.Clone(k.dead), api.OK
}

func (m *model) Span() api.Range { return api.Range{Low: m.floor, High: len(m.bodies)} }

func (m *model) Retain() int {
	if len(m.takers) == 0 {
		return 0
	}
	was := m.floor
	for floor := 0; floor <= len(m.bodies); floor += m.config.Segment {
		if floor > m.floor && m.mayGo(floor) {
			m.floor = floor
		}
	}
	return m.floor - was
}

// mayGo tells whether no group's mark lies below a floor.
func (m *model) mayGo(floor int) bool {
	for _, k := range m.takers {
		for offset := k.start; offset < floor; offset++ {
			if !k.of[offset].done {
				return false
			}
		}
	}
	return true
}
