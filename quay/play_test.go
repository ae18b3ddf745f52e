package quay_test

import (
	"fmt"
	"math"
	"slices"
	"strings"
	"testing"

	"quay/api"
)

// face is the calls that a queue and the model have.
type face interface {
	Enqueue(body string) (int, api.Errno)
	Group(name string, from int) api.Errno
	Receive(group string, n int) ([]api.Delivery, api.Errno)
	Ack(group string, offset int, try int) api.Errno
	Nack(group string, offset int, try int, delay int) api.Errno
	Extend(group string, offset int, try int, ms int) api.Errno
	Tick(ms int) api.Errno
	Done(group string) ([]api.Range, api.Errno)
	Dead(group string) ([]api.Delivery, api.Errno)
	Span() api.Range
	Retain() int
}

// names: six groups, one too many, and two that are none.
var names = []string{"a", "b", "\x00", "g g", "e", strings.Repeat("n", 16), "seventh", "", strings.Repeat("n", 17)}

// call is a call with its arguments: made on a queue, it tells what was answered.
type call struct {
	text string
	on   func(f face) string
}

// look tells all that a queue can be asked without changing it. The lists that it is told are spoilt.
func look(f face) string {
	var b strings.Builder
	fmt.Fprint(&b, f.Span())
	for _, name := range names {
		set, e := f.Done(name)
		fmt.Fprint(&b, " ", set, e)
		spoil(set, api.Range{Low: -9})
		list, e := f.Dead(name)
		fmt.Fprintf(&b, " %v %d", list, e)
		spoil(list, api.Delivery{Offset: -9})
	}
	return b.String()
}

// player draws calls, by a row of numbers that a seed begins.
type player struct {
	seed  uint64
	model *model
	given []settled // what was ever delivered
	few   bool      // one group alone: then more messages go, and more are taken
	frail bool      // there are crashes, and the log is written anew
}

// settled is what a lease is settled by.
type settled struct {
	name        string
	offset, try int
}

// draw tells a number from 0 on, below n.
func (p *player) draw(n int) int {
	p.seed += 0x9e3779b97f4a7c15
	z := p.seed
	z = (z ^ z>>30) * 0xbf58476d1ce4e5b9
	z = (z ^ z>>27) * 0x94d049bb133111eb
	return int((z ^ z>>31) % uint64(n))
}

// one draws one of a list.
func one[T any](p *player, list ...T) T { return list[p.draw(len(list))] }

// odd tells, one time in n, that something wrong is to be drawn.
func (p *player) odd(n int) bool { return p.draw(n) == 0 }

func (p *player) name() string {
	if p.odd(30) || len(p.model.takers) == 0 {
		return one(p, names...)
	}
	return one(p, p.model.takers...).name
}

// around draws a number at the edges of what is kept, or far off.
func (p *player) around() int {
	r := p.model.Span()
	return one(p, r.Low-1, r.Low, r.Low+1, r.High-1, r.High, r.High+1, 0, -1, 400, math.MinInt, math.MaxInt)
}

// running tells what is leased.
func (p *player) running() []settled {
	var list []settled
	for _, k := range p.model.takers {
		for offset := max(k.start, p.model.floor); offset < len(p.model.bodies); offset++ {
			if s := k.of[offset]; p.model.isLeased(s) {
				list = append(list, settled{k.name, offset, s.tries})
			}
		}
	}
	return list
}

// lease draws what is leased, mostly; else what was leased once, or never.
func (p *player) lease() settled {
	list := p.running()
	if len(list) == 0 || p.odd(10) {
		list = p.given
	}
	if len(list) == 0 || p.odd(20) {
		return settled{p.name(), p.around(), p.draw(4)}
	}
	s := one(p, list...)
	if p.odd(20) {
		s.try += one(p, -1, 1, math.MinInt, math.MaxInt)
	}
	if p.odd(20) {
		s.offset = p.around()
	}
	if p.odd(20) {
		s.name = p.name()
	}
	return s
}

// time draws a time of which some are out of the bounds.
func (p *player) time() int {
	if p.odd(15) {
		return one(p, -1, 0, 1, 60000, 60001, math.MinInt, math.MaxInt)
	}
	lease := p.model.config.Lease
	return one(p, 0, 1, 1, 2, 3, lease-1, lease, lease+1, p.draw(2*lease))
}

func (p *player) enqueue() call {
	body := strings.Repeat(string(rune('a'+p.draw(26))), one(p, 0, 1, 2, 3, 63, 64, 65))
	return call{fmt.Sprintf("Enqueue(%q)", body), func(f face) string { return fmt.Sprint(f.Enqueue(body)) }}
}

func (p *player) group() call {
	name, from := one(p, names...), p.around()
	if p.few && len(p.model.takers) > 0 {
		name = p.model.takers[0].name
	}
	return call{fmt.Sprintf("Group(%q, %d)", name, from), func(f face) string { return fmt.Sprint(f.Group(name, from)) }}
}

func (p *player) receive() call {
	name, n := p.name(), one(p, 1, 1, 1, 2, 2, 3, 5, 31, 32)
	if p.odd(20) {
		n = one(p, 0, 33, -1, math.MinInt, math.MaxInt)
	}
	return call{fmt.Sprintf("Receive(%q, %d)", name, n), func(f face) string {
		list, e := f.Receive(name, n)
		text := fmt.Sprintf("%v %d", list, e)
		if f == face(p.model) {
			for _, d := range list {
				p.given = append(p.given, settled{name, d.Offset, d.Try})
			}
		}
		spoil(list, api.Delivery{Offset: -9})
		return text
	}}
}

func (p *player) ack() call {
	s := p.lease()
	return call{fmt.Sprintf("Ack(%+v)", s), func(f face) string { return fmt.Sprint(f.Ack(s.name, s.offset, s.try)) }}
}

func (p *player) nack() call {
	s, delay := p.lease(), p.time()
	return call{fmt.Sprintf("Nack(%+v, %d)", s, delay), func(f face) string { return fmt.Sprint(f.Nack(s.name, s.offset, s.try, delay)) }}
}

func (p *player) extend() call {
	s, ms := p.lease(), p.time()
	return call{fmt.Sprintf("Extend(%+v, %d)", s, ms), func(f face) string { return fmt.Sprint(f.Extend(s.name, s.offset, s.try, ms)) }}
}

func (p *player) tick() call {
	ms := p.time()
	return call{fmt.Sprintf("Tick(%d)", ms), func(f face) string { return fmt.Sprint(f.Tick(ms)) }}
}

func (p *player) retain() call {
	return call{"Retain()", func(f face) string { return fmt.Sprint(f.Retain()) }}
}

// next draws a call: Group seldom, or all groups would start at the beginning.
func (p *player) next() call {
	if p.frail && p.odd(25) {
		return one(p, crash, compact)
	}
	if p.odd(40) {
		return p.group()
	}
	return one(p, p.enqueue, p.enqueue, p.receive, p.receive, p.receive, p.ack, p.ack, p.ack, p.ack, p.nack, p.extend, p.tick, p.tick, p.retain)()
}

// play draws calls, makes them on the model, and tells them and what is to be answered.
func play(c api.Config, seed uint64, steps int) (list []call, want []string) {
	return newPlayer(c, seed).play(steps)
}

func newPlayer(c api.Config, seed uint64) *player {
	return &player{seed: seed, model: &model{config: c}, few: seed%3 == 0}
}

func (p *player) play(steps int) (list []call, want []string) {
	for i := range steps {
		x := p.next()
		list = append(list, x)
		want = append(want, answer(p.model, x, i))
	}
	return list, want
}

// answer makes a call, and tells what was answered; now and then, too, what can be asked then.
func answer(f face, x call, i int) string {
	if i%4 > 0 {
		return x.on(f)
	}
	return x.on(f) + " then " + look(f)
}

// check makes one of a row of calls on a queue, and checks the answer.
func check(t *testing.T, q face, list []call, want []string, i int) {
	t.Helper()
	if got := answer(q, list[i], i); got != want[i] {
		t.Fatalf("call %d, %s:\n got %s\nwant %s", i, list[i].text, got, want[i])
	}
}

// seeds is how many rows of calls are played for each configuration.
const seeds = 8

// steps tells how many calls a row has: the first one so many that the queue may come to its last offset.
func steps(seed uint64) int {
	if seed == 0 {
		return 6000
	}
	return 1200
}

func configs() []api.Config {
	return []api.Config{
		example,
		{Lease: 1, Deliveries: 1, Segment: 1, Kept: 1},
		{Lease: 5, Deliveries: 3, Segment: 3, Kept: 20},
		{Lease: 20, Deliveries: 10, Segment: 16, Kept: 100},
		{Lease: 60000, Deliveries: 2, Segment: 1, Kept: 100},
		{Lease: 3, Deliveries: 1, Segment: 16, Kept: 16},
	}
}

func TestQueueAnswersAsTheModel(t *testing.T) {
	for _, c := range configs() {
		for seed := range uint64(seeds) {
			list, want := play(c, seed, steps(seed))
			q := open(t, c)
			for i := range list {
				check(t, q, list, want, i)
			}
		}
	}
}

// What the rows of calls come upon: else they would check less than they seem to.
func TestPlayComesUponAll(t *testing.T) {
	seen := make(map[string]int)
	for _, c := range configs() {
		for seed := range uint64(seeds) {
			list, want := play(c, seed, steps(seed))
			for i := range list {
				call, _, _ := strings.Cut(list[i].text, "(")
				answer, _, _ := strings.Cut(want[i], " then ")
				words := strings.Fields(answer)
				seen[call+" "+words[len(words)-1]]++
			}
		}
	}
	for _, want := range []string{
		"Enqueue 0", "Enqueue 3", "Enqueue 4", "Enqueue 5", "Group 0", "Group 6", "Group 7", "Group 8", "Group 9",
		"Receive 0", "Receive 10", "Receive 11", "Ack 0", "Ack 9", "Ack 10", "Ack 12", "Nack 0", "Nack 9", "Nack 10", "Nack 11", "Nack 12",
		"Extend 0", "Extend 9", "Extend 10", "Extend 11", "Extend 12", "Tick 0", "Tick 11", "Retain 0", "Retain 1", "Retain 2", "Retain 3", "Retain 16",
	} {
		if seen[want] == 0 {
			t.Errorf("no call answered %s: %v", want, seen)
		}
	}
}

func TestQueuesDoNotTouch(t *testing.T) {
	for seed := range uint64(4) {
		for i, c := range configs() {
			other := configs()[(i+int(seed))%len(configs())]
			first, wantFirst := play(c, seed, 300)
			second, wantSecond := play(other, seed+100, 300)
			// Both at a time, one some calls ahead of the other.
			ahead := 40 * int(seed)
			q, r := open(t, c), open(t, other)
			for i := range len(first) + ahead {
				if i < len(first) {
					check(t, q, first, wantFirst, i)
				}
				if i >= ahead {
					check(t, r, second, wantSecond, i-ahead)
				}
			}
		}
	}
}

func TestQueuesAreTheSameInEveryRun(t *testing.T) {
	for _, c := range configs() {
		list, want := play(c, 77, 400)
		for range 10 {
			q := open(t, c)
			for i := range list {
				check(t, q, list, want, i)
			}
		}
	}
}

// refusal is a call that is answered by an error.
type refusal struct {
	text string
	want api.Errno
	on   func(f face) api.Errno
}

// refusals are calls that are refused by every queue that has these messages, and no group "x".
func refusals(r api.Range) []refusal {
	list := []refusal{
		{"Enqueue", api.ErrLong, func(f face) api.Errno { return bare(f.Enqueue(strings.Repeat("x", 65))) }},
		{"Group", api.ErrName, func(f face) api.Errno { return f.Group("", r.Low) }},
		{"Group", api.ErrName, func(f face) api.Errno { return f.Group(strings.Repeat("x", 17), r.Low) }},
	}
	for _, n := range slices.Concat([]int{-1, 60001}, extremes) {
		list = append(list,
			refusal{"Tick", api.ErrRange, func(f face) api.Errno { return f.Tick(n) }},
			refusal{"Ack", api.ErrGroup, func(f face) api.Errno { return f.Ack("x", n, n) }},
			refusal{"Nack", api.ErrGroup, func(f face) api.Errno { return f.Nack("x", n, n, n) }},
			refusal{"Extend", api.ErrGroup, func(f face) api.Errno { return f.Extend("x", n, n, n) }},
			refusal{"Receive", api.ErrGroup, func(f face) api.Errno { return received(f.Receive("x", n)) }})
	}
	return list
}

// refusalsOf are calls that are refused by every queue that has these messages, and the group.
func refusalsOf(name string, r api.Range) []refusal {
	list := []refusal{{"Group", api.ErrTwice, func(f face) api.Errno { return f.Group(name, r.Low) }}}
	for _, n := range slices.Concat([]int{-1, 60001}, extremes) {
		for _, offset := range []int{r.Low, r.High - 1, r.High} {
			list = append(list,
				refusal{"Nack", api.ErrRange, func(f face) api.Errno { return f.Nack(name, offset, 1, n) }},
				refusal{"Extend", api.ErrRange, func(f face) api.Errno { return f.Extend(name, offset, 1, n) }},
				refusal{"Extend by 0", api.ErrRange, func(f face) api.Errno { return f.Extend(name, offset, 1, 0) }})
		}
		list = append(list,
			refusal{"Receive", api.ErrRange, func(f face) api.Errno { return received(f.Receive(name, n)) }},
			refusal{"Receive of 0", api.ErrRange, func(f face) api.Errno { return received(f.Receive(name, 0)) }},
			refusal{"Receive of 33", api.ErrRange, func(f face) api.Errno { return received(f.Receive(name, 33)) }})
	}
	for _, offset := range slices.Concat([]int{-1, r.Low - 1, r.High, r.High + 1}, extremes) {
		list = append(list,
			refusal{"Ack", api.ErrOffset, func(f face) api.Errno { return f.Ack(name, offset, 1) }},
			refusal{"Nack", api.ErrOffset, func(f face) api.Errno { return f.Nack(name, offset, 1, 0) }},
			refusal{"Extend", api.ErrOffset, func(f face) api.Errno { return f.Extend(name, offset, 1, 1) }})
	}
	return list
}

// bare tells an error beside which there is nothing, -1 else.
func bare(n int, e api.Errno) api.Errno {
	if n != 0 {
		return -1
	}
	return e
}

// received is bare of a list.
func received(list []api.Delivery, e api.Errno) api.Errno { return bare(len(list), e) }

func TestRefusedCallsChangeNothing(t *testing.T) {
	for _, c := range configs() {
		list, want := play(c, 5, 300)
		q := open(t, c)
		m := &model{config: c}
		for i := range list {
			wrong := refusals(q.Span())
			for _, k := range m.takers {
				wrong = append(wrong, refusalsOf(k.name, q.Span())...)
			}
			for j, x := range wrong {
				if e := x.on(q); e != x.want {
					t.Fatalf("ahead of call %d: refusal %d, %s = %d, want %d", i, j, x.text, e, x.want)
				}
			}
			check(t, q, list, want, i)
			list[i].on(m)
		}
	}
}
