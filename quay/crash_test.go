package quay_test

import (
	"fmt"
	"maps"
	"slices"
	"strings"
	"testing"

	"quay/api"
	"quay/quay"
)

// frail is a face that has crashes behind which the whole log is found, and whose log may be written anew.
type frail interface {
	face
	Crash()
	Compact()
}

var (
	crash   = call{"Crash()", func(f face) string { f.(frail).Crash(); return "-" }}
	compact = call{"Compact()", func(f face) string { f.(frail).Compact(); return "-" }}
)

// vessel is a queue of which nothing is left in a crash but its log.
type vessel struct {
	*quay.Queue
	t      *testing.T
	config api.Config
}

func (v *vessel) Crash() {
	v.t.Helper()
	v.Queue = reopen(v.t, v.config, v.Log())
}

// reopen opens a queue of a whole log.
func reopen(t *testing.T, c api.Config, log string) *quay.Queue {
	t.Helper()
	q, e := quay.Open(c, log)
	if q == nil || e != api.OK {
		t.Fatalf("Open of a log of %d bytes = %t, %d, want a queue", len(log), q != nil, e)
	}
	if q.Log() != log {
		t.Fatalf("the log of a new queue has %d bytes, want the %d that it was opened of", len(q.Log()), len(log))
	}
	return q
}

// drain tells all that a queue delivers from now on, till nothing is left: so each try is seen. It is asked nothing else behind that.
func drain(f face, lease int) string {
	var b strings.Builder
	b.WriteString(look(f))
	for range api.MaxDeliveries + 1 {
		for _, name := range names {
			for range 1 + api.MaxKept/api.MaxAsked {
				list, e := f.Receive(name, api.MaxAsked)
				fmt.Fprint(&b, " ", list, e)
			}
		}
		b.WriteString(look(f))
		f.Tick(lease)
	}
	fmt.Fprint(&b, f.Retain(), f.Span())
	for _, name := range names {
		fmt.Fprint(&b, f.Group(name, f.Span().Low))
	}
	fmt.Fprint(&b, f.Retain(), f.Span())
	for range api.MaxKept + 1 {
		offset, e := f.Enqueue("more")
		fmt.Fprint(&b, " ", offset, e)
	}
	return b.String()
}

// likewise checks that a queue is as the model was, behind a crash.
func likewise(t *testing.T, q *quay.Queue, m *model) {
	t.Helper()
	m = m.clone()
	m.Crash()
	if got, want := drain(q, m.config.Lease), drain(m, m.config.Lease); got != want {
		t.Fatalf("behind a crash:\n got %s\nwant %s", got, want)
	}
}

// What comes behind a crash, or behind Compact, is held against the model: leases, tries, all that was done.
func TestQueueAnswersAsTheModelBehindCrashes(t *testing.T) {
	for _, c := range configs() {
		for seed := range uint64(seeds) {
			p := newPlayer(c, seed+50)
			p.frail = true
			list, want := p.play(steps(seed))
			v := &vessel{open(t, c), t, c}
			for i := range list {
				check(t, v, list, want, i)
			}
			likewise(t, reopen(t, c, v.Log()), p.model)
		}
	}
}

// stand is how a queue was when its log had a length.
type stand struct {
	length int
	text   string
	model  *model
}

// logged plays a row of calls on a queue; it checks that the log grows by those calls alone that change what it must tell, and tells the stands since the last Compact.
func logged(t *testing.T, c api.Config, seed uint64, steps int) (log string, stands []stand) {
	t.Helper()
	p := newPlayer(c, seed)
	v := &vessel{open(t, c), t, c}
	now := func() stand { return stand{len(v.Log()), look(v), p.model.clone()} }
	stands = []stand{now()}
	for i := range steps {
		was, before := v.Log(), p.model.lasting()
		x := p.next()
		x.on(p.model)
		x.on(v)
		if p.model.lasting() == before {
			if v.Log() != was {
				t.Fatalf("call %d, %s, changes nothing that lasts: the log goes from %d bytes to %d", i, x.text, len(was), len(v.Log()))
			}
		} else {
			if !strings.HasPrefix(v.Log(), was) || len(v.Log()) == len(was) {
				t.Fatalf("call %d, %s, changes something: the log goes from %d bytes to %d", i, x.text, len(was), len(v.Log()))
			}
			stands = append(stands, now())
		}
		if i == steps/2 && seed%2 == 1 {
			v.Compact()
			stands = []stand{now()}
		}
	}
	return v.Log(), stands
}

func TestLogIsAddedToByWhatLastsAlone(t *testing.T) {
	for _, c := range configs() {
		seen := 0
		for seed := range uint64(6) {
			log, stands := logged(t, c, seed+200, 400)
			if n := stands[len(stands)-1].length; n != len(log) {
				t.Errorf("the log has %d bytes, want %d", len(log), n)
			}
			seen += len(stands)
		}
		if seen < 100 {
			t.Errorf("%+v: %d calls added to a log: too few to tell much", c, seen)
		}
	}
}

func TestOpenOfALogThatIsCutAnywhere(t *testing.T) {
	for _, c := range configs() {
		for seed := range uint64(4) {
			log, stands := logged(t, c, seed+300, 130)
			at := 0
			for n := stands[0].length; n <= len(log); n++ {
				fresh := at+1 < len(stands) && stands[at+1].length == n
				if fresh {
					at++
				}
				s := stands[at]
				q, e := quay.Open(c, log[:n])
				if q == nil || e != api.OK || q.Log() != log[:s.length] {
					t.Fatalf("of %d bytes of %d: Open = %t, %d, want a queue with a log of %d", n, len(log), q != nil, e, s.length)
				}
				if got := look(q); got != s.text {
					t.Fatalf("of %d bytes of %d:\n got %s\nwant %s", n, len(log), got, s.text)
				}
				if fresh || at+1 < len(stands) && stands[at+1].length == n+1 {
					likewise(t, q, s.model)
				}
			}
			if at != len(stands)-1 {
				t.Fatalf("%d stands of %d were seen", at+1, len(stands))
			}
		}
	}
}

// A queue of a log that was cut goes on: what it writes then stands behind what was whole.
func TestLogGoesOnBehindACut(t *testing.T) {
	for _, c := range configs() {
		log, stands := logged(t, c, 401, 130)
		for i, s := range stands[:len(stands)-1] {
			// Cut within the record that comes next.
			q, e := quay.Open(c, log[:(s.length+stands[i+1].length)/2])
			if e != api.OK {
				t.Fatalf("Open: %d", e)
			}
			m := s.model.clone()
			m.Crash()
			p := &player{seed: uint64(i), model: m, frail: true}
			list, want := p.play(60)
			v := &vessel{q, t, c}
			for i := range list {
				check(t, v, list, want, i)
			}
			likewise(t, reopen(t, c, v.Log()), m)
		}
	}
}

func TestCompactKeepsAllAndIsShort(t *testing.T) {
	for _, c := range configs() {
		for seed := range uint64(4) {
			p := newPlayer(c, seed+500)
			v := &vessel{open(t, c), t, c}
			for range 400 {
				x := p.next()
				x.on(p.model)
				x.on(v)
				// Of a queue opened anew: the log of v itself goes on growing.
				q := reopen(t, c, v.Log())
				q.Compact()
				if n := p.model.room(); len(q.Log()) > n {
					t.Fatalf("Compact wrote %d bytes, want %d at most", len(q.Log()), n)
				}
				again := reopen(t, c, q.Log())
				same(t, []string{look(q), look(again)}, []string{look(p.model), look(p.model)})
				if p.odd(10) {
					likewise(t, again, p.model)
				}
			}
		}
	}
}

// P11: what the groups are delivered, counted by who takes it alone: nothing that is done comes again, nothing comes too often, all comes till it is done, and nothing goes that is not.
func TestNothingIsLostOrDoneTwice(t *testing.T) {
	for seed := range uint64(60) {
		p := &player{seed: seed + 600}
		c := api.Config{Lease: 1 + p.draw(9), Deliveries: 1 + p.draw(4), Segment: 1 + p.draw(5), Kept: 5 + p.draw(20)}
		h := &harbour{t: t, v: &vessel{open(t, c), t, c}, p: p, takes: make(map[string]*taking)}
		for range 400 {
			h.step()
		}
		h.finish()
	}
}

// harbour is a queue, and what its groups know of it.
type harbour struct {
	t     *testing.T
	v     *vessel
	p     *player
	end   int
	takes map[string]*taking
}

// taking is what a group knows of its messages.
type taking struct {
	start int
	count [api.MaxOffset]int
	done  [api.MaxOffset]bool
	open  []api.Delivery // delivered since the last crash, not acked
}

func (h *harbour) step() {
	name := one(h.p, "a", "b", "c")
	k := h.takes[name]
	switch h.p.draw(12) {
	case 0, 1, 2:
		if offset, e := h.v.Enqueue("x"); e == api.OK {
			h.end = offset + 1
		}
	case 3:
		if start := h.v.Span().Low; h.v.Group(name, start) == api.OK {
			h.takes[name] = &taking{start: start}
		}
	case 4, 5, 6:
		h.receive(name, 1+h.p.draw(6))
	case 7, 8:
		if k != nil && len(k.open) > 0 {
			h.ack(name, one(h.p, k.open...))
		}
	case 9:
		h.v.Tick(h.p.draw(12))
	case 10:
		h.retain()
	default:
		if h.p.odd(2) {
			h.v.Compact()
		}
		h.v.Crash()
		for _, k := range h.takes {
			k.open = nil
		}
	}
}

func (h *harbour) receive(name string, n int) {
	h.t.Helper()
	list, _ := h.v.Receive(name, n)
	k := h.takes[name]
	for _, d := range list {
		k.count[d.Offset]++
		if k.done[d.Offset] || d.Offset < k.start || d.Try != k.count[d.Offset] || d.Try > h.v.config.Deliveries {
			h.t.Fatalf("group %q, start %d, done %t: delivered %d times: %v", name, k.start, k.done[d.Offset], k.count[d.Offset], d)
		}
		k.open = append(k.open, d)
	}
	if k != nil {
		h.bury(name, k)
	}
}

// bury says that a group is done with what is dead to it: that must have been delivered as often as may be.
func (h *harbour) bury(name string, k *taking) {
	h.t.Helper()
	dead, _ := h.v.Dead(name)
	for _, d := range dead {
		if k.count[d.Offset] != h.v.config.Deliveries || d.Try != h.v.config.Deliveries {
			h.t.Fatalf("group %q: dead by %d deliveries: %v", name, k.count[d.Offset], d)
		}
		k.done[d.Offset] = true
	}
}

func (h *harbour) ack(name string, d api.Delivery) {
	if h.v.Ack(name, d.Offset, d.Try) == api.OK {
		h.takes[name].done[d.Offset] = true
	}
}

func (h *harbour) retain() {
	h.t.Helper()
	was := h.v.Span().Low
	gone := h.v.Retain()
	for offset := was; offset < was+gone; offset++ {
		for name, k := range h.takes {
			if offset >= k.start && !k.done[offset] {
				h.t.Fatalf("group %q is not done with %d, that went", name, offset)
			}
		}
	}
}

// finish lets each group take all that is left.
func (h *harbour) finish() {
	h.t.Helper()
	for range 2*api.MaxDeliveries + 2 {
		for _, name := range slices.Sorted(maps.Keys(h.takes)) {
			h.receive(name, 32)
			for _, d := range h.takes[name].open {
				if h.p.odd(3) {
					h.ack(name, d)
				}
			}
		}
		h.v.Crash()
	}
	for name, k := range h.takes {
		for offset := k.start; offset < h.end; offset++ {
			if !k.done[offset] {
				h.t.Fatalf("group %q never was done with %d", name, offset)
			}
		}
	}
}
