package quay

import (
	"math/rand"
	"slices"
	"strings"
	"testing"

	"quay/api"
	"quay/ranges"
)

// entry is a record.
type entry struct {
	kind byte
	data string
}

// of is a record of a name and numbers.
func of(kind byte, name string, numbers ...int) entry {
	return entry{kind, string(putNumbers(putText(nil, name), numbers...))}
}

// forge writes a log whose sums are right, whatever it tells.
func forge(c api.Config, list ...entry) string {
	j := newJournal(c)
	for _, x := range list {
		j.add(x.kind, x.data)
	}
	return string(j.text)
}

// entries takes a log apart.
func entries(t *testing.T, c api.Config, log string) []entry {
	t.Helper()
	s := scanner{reader: reader{rest: log}, sum: newJournal(c).sum}
	var list []entry
	for s.rest != "" {
		kind, data, err := s.record()
		if err != nil {
			t.Fatalf("record %d: %v", len(list), err)
		}
		list = append(list, entry{kind, data})
	}
	return list
}

var small = api.Config{Lease: 10, Deliveries: 2, Segment: 2, Kept: 5}

// good is a log that a queue may have told: the messages 0 to 3 are kept, of which group "g" has 1 (delivered), 2 (acked) and 3.
func good() []entry {
	return []entry{
		{enqueued, "a"}, {enqueued, "b"}, {enqueued, ""}, of(joined, "g", 1), {enqueued, "d"},
		of(received, "g", 1, 2), of(acked, "g", 2),
	}
}

// refuse checks that a log is refused.
func refuse(t *testing.T, what string, c api.Config, list ...entry) {
	t.Helper()
	if q, e := Open(c, forge(c, list...)); q != nil || e != api.ErrLog {
		t.Errorf("%s: Open = %t, %d, want no queue, %d", what, q != nil, e, api.ErrLog)
	}
}

// accept checks that a log is taken.
func accept(t *testing.T, what string, c api.Config, list ...entry) *Queue {
	t.Helper()
	log := forge(c, list...)
	q, e := Open(c, log)
	if q == nil || e != api.OK || q.Log() != log {
		t.Fatalf("%s: Open = %t, %d, want a queue of that log", what, q != nil, e)
	}
	return q
}

func TestGoodRecordsAreTaken(t *testing.T) {
	accept(t, "none", small)
	q := accept(t, "good", small, good()...)
	if r := q.Span(); r != (api.Range{Low: 0, High: 4}) {
		t.Errorf("Span() = %v", r)
	}
	for _, x := range []entry{
		{enqueued, strings.Repeat("x", 64)},
		of(joined, strings.Repeat("n", 16), 0),
		of(joined, "h", 4),
		of(received, "g", 1, 3),
		of(acked, "g", 1),
	} {
		accept(t, "one more", small, append(good(), x)...)
	}
	accept(t, "a message dies", small, append(good(), of(received, "g", 1), of(received, "g", 1, 3))...)
	accept(t, "some go", small, append(good(), of(acked, "g", 1), entry{retained, ""})...)
}

func TestRecordsThatNoCallWritesAreRefused(t *testing.T) {
	for i, x := range []entry{
		{enqueued, strings.Repeat("x", 65)},
		{enqueued, strings.Repeat("x", 70000)},
		of(joined, "", 0), of(joined, strings.Repeat("n", 17), 0), of(joined, "g", 0), of(joined, "h", 5), of(joined, "h", 65535),
		of(joined, "h"), of(joined, "h", 0, 0), {joined, ""}, {joined, "\x02h"}, {joined, "\x01h\x00"}, {joined, "\x01h\x00\x00\x00"},
		of(received, "h", 1), of(received, "", 1), of(received, "g"), of(received, "g", 0), of(received, "g", 4), of(received, "g", 65535),
		of(received, "g", 2), of(received, "g", 3, 2), {received, ""}, {received, "\x01g\x00"}, {received, "\x01g\x00\x01\x00"}, {received, "\xffg\x00\x01"},
		of(acked, "h", 1), of(acked, "g", 0), of(acked, "g", 2), of(acked, "g", 3), of(acked, "g", 4), of(acked, "g", 65535),
		of(acked, "g"), of(acked, "g", 1, 1), {acked, ""}, {acked, "\x01g\x00"},
		{retained, ""}, {retained, "\x00"},
		{compacted, string((&Queue{}).snapshot())},
		{0, ""}, {'x', ""}, {255, "\x01g\x00\x01"}, {'x', "\x01g\x00\x01"},
	} {
		refuse(t, "record "+string(x.kind)+" "+string(rune('A'+i)), small, append(good(), x)...)
	}
	refuse(t, "too many messages", small, append(good(), entry{enqueued, "e"}, entry{enqueued, "f"})...)
	refuse(t, "some go, and a word too much", small, append(good(), of(acked, "g", 1), entry{retained, "x"})...)
	gone := append(good(), of(acked, "g", 1), entry{retained, ""})
	refuse(t, "they go twice", small, append(gone, entry{retained, ""})...)
	refuse(t, "a start ahead of the floor", small, append(gone, of(joined, "h", 1))...)
	refuse(t, "what went is delivered", small, append(gone, of(received, "g", 1))...)
	dead := append(good(), of(received, "g", 1), of(received, "g", 1))
	refuse(t, "what is dead is delivered", small, append(dead, of(received, "g", 1))...)
	refuse(t, "what is dead is acked", small, append(dead, of(acked, "g", 1))...)
	var groups []entry
	for _, name := range []string{"a", "b", "c", "d", "e", "f"} {
		groups = append(groups, of(joined, name, 0))
	}
	accept(t, "six groups", small, groups...)
	refuse(t, "seven groups", small, append(groups, of(joined, "g", 0))...)
}

func TestMessagesEndAtMaxOffsetInALogToo(t *testing.T) {
	c := api.Config{Lease: 1, Deliveries: 1, Segment: 1, Kept: 1}
	list := []entry{of(joined, "g", 0)}
	for offset := range api.MaxOffset {
		list = append(list, entry{enqueued, "x"}, of(received, "g", offset), of(acked, "g", offset), entry{retained, ""})
	}
	accept(t, "all", c, list...)
	refuse(t, "one more", c, append(list, entry{enqueued, "x"})...)
}

// whole is a snapshot that a queue may have told.
func whole(t *testing.T) string {
	t.Helper()
	q := accept(t, "good", small, append(good(),
		of(received, "g", 1), of(received, "g", 1, 3), // 1 dies
		entry{retained, ""}, entry{enqueued, "e"}, entry{enqueued, "ff"},
		of(joined, "h", 5), of(received, "g", 3), of(received, "g", 3, 4))...) // 3 dies
	return string(q.snapshot())
}

func TestSnapshotsAreTakenWholeOnly(t *testing.T) {
	data := whole(t)
	q := accept(t, "whole", small, entry{compacted, data})
	if r := q.Span(); r != (api.Range{Low: 2, High: 6}) {
		t.Errorf("Span() = %v", r)
	}
	for n := range len(data) {
		refuse(t, "cut", small, entry{compacted, data[:n]})
	}
	for _, more := range []string{"\x00", "x", "\x00\x00", data} {
		refuse(t, "more behind it", small, entry{compacted, data + more})
	}
	refuse(t, "twice", small, entry{compacted, data}, entry{compacted, data})
	refuse(t, "behind another record", small, entry{enqueued, "a"}, entry{compacted, data})
}

// parts puts a snapshot together: the floor and the bodies, then groups.
func parts(floor int, bodies []string, groups ...string) entry {
	data := putNumbers(nil, floor, len(bodies))
	for _, body := range bodies {
		data = putText(data, body)
	}
	data = putNumbers(data, len(groups))
	return entry{compacted, string(data) + strings.Join(groups, "")}
}

// member is a group of a snapshot: what it has of its messages, then its dead.
func member(name string, start int, tries string, dead ...api.Delivery) string {
	data := putNumbers(putText(nil, name), start)
	data = putNumbers(append(data, tries...), len(dead))
	for _, d := range dead {
		data = putText(putNumbers(data, d.Offset), d.Body)
	}
	return string(data)
}

func TestSnapshotsThatAreNoneAreRefused(t *testing.T) {
	two := []string{"a", "b"}
	dead := func(offset int, body string) api.Delivery { return api.Delivery{Offset: offset, Body: body} }
	for _, x := range []entry{
		parts(0, nil),
		parts(400, nil),
		parts(398, two),
		parts(0, []string{"", "", "", "", strings.Repeat("x", 64)}),
		parts(4, two, member("g", 4, "\x01\x02"), member("h", 2, "\xff\x00"), member("i", 6, "")),
		parts(4, two, member("g", 0, "\xff\x00", dead(0, strings.Repeat("x", 64)), dead(4, "a"), dead(1, ""))),
	} {
		accept(t, "a snapshot", small, x)
	}
	for what, x := range map[string]entry{
		"a floor within a segment":    parts(3, two),
		"a floor too great":           parts(402, nil),
		"a floor much too great":      parts(65534, two),
		"an end too great":            parts(400, []string{"a"}),
		"an end too great by one":     parts(398, []string{"a", "b", "c"}),
		"too many messages":           parts(0, make([]string, 6)),
		"many messages, none there":   {compacted, "\x00\x00\xff\xff"},
		"many groups, none there":     {compacted, "\x00\x00\x00\x00\xff\xff"},
		"a body too long":             parts(0, []string{strings.Repeat("x", 65)}),
		"no name":                     parts(0, two, member("", 0, "\x00\x00")),
		"a name too long":             parts(0, two, member(strings.Repeat("n", 17), 0, "\x00\x00")),
		"a name twice":                parts(0, two, member("g", 0, "\x00\x00"), member("g", 0, "\x00\x00")),
		"seven groups":                parts(0, nil, member("a", 0, ""), member("b", 0, ""), member("c", 0, ""), member("d", 0, ""), member("e", 0, ""), member("f", 0, ""), member("g", 0, "")),
		"a start behind the end":      parts(0, two, member("g", 3, "")),
		"a start far behind":          parts(0, two, member("g", 65535, "")),
		"a try too many":              parts(0, two, member("g", 0, "\x03\x00")),
		"many tries too many":         parts(0, two, member("g", 0, "\x00\xfe")),
		"tries of too few":            parts(0, two, member("g", 0, "\x00")),
		"tries of too many":           parts(0, two, member("g", 0, "\x00\x00\x00")),
		"dead, not done":              parts(0, two, member("g", 0, "\x00\x02", dead(1, "b"))),
		"dead ahead of the start":     parts(2, two, member("g", 1, "\x00\x00", dead(0, "x"))),
		"dead behind the end":         parts(2, two, member("g", 1, "\xff\xff", dead(4, "x"))),
		"dead twice":                  parts(2, two, member("g", 1, "\x00\x00", dead(1, "x"), dead(1, "x"))),
		"dead, another body":          parts(2, two, member("g", 1, "\xff\x00", dead(2, "b"))),
		"dead, a body too long":       parts(2, two, member("g", 1, "\xff\x00", dead(1, strings.Repeat("x", 65)))),
		"many dead, none there":       parts(2, two, "\x01g\x00\x01\xff\x00\xff\xff"),
		"many dead, one there":        parts(2, two, "\x01g\x00\x01\xff\x00\xff\xff\x00\x01\x00"),
		"a name that is cut off":      parts(0, nil, "\x05g"),
		"nothing":                     {compacted, ""},
		"half a floor":                {compacted, "\x00"},
		"a body that is cut off":      {compacted, "\x00\x00\x00\x01\x05abc"},
		"no number of groups":         {compacted, "\x00\x00\x00\x01\x01a"},
		"half a number of its groups": {compacted, "\x00\x00\x00\x01\x01a\x00"},
	} {
		refuse(t, what, small, x)
	}
}

// sound checks what holds of every queue, however it came to be.
func sound(t *testing.T, q *Queue) {
	t.Helper()
	r := q.Span()
	if r.Low < 0 || r.High > api.MaxOffset || r.High-r.Low != len(q.bodies) || len(q.bodies) > q.config.Kept || r.Low%q.config.Segment != 0 || len(q.groups) > api.MaxGroups {
		t.Fatalf("%d messages, %d groups, Span() = %v", len(q.bodies), len(q.groups), r)
	}
	for name, g := range q.groups {
		if !isName(name) || !between(g.start, 0, r.High) || len(g.waits) > 0 || g.mark() < r.Low {
			t.Fatalf("group %q: %+v, Span() = %v", name, g, r)
		}
		if _, e := ranges.Has(g.done, 0); e != api.OK || len(g.done) > 0 && (g.done[0].Low < g.start || g.done[len(g.done)-1].High >= r.High) {
			t.Fatalf("group %q is done with %v", name, g.done)
		}
		for offset, tries := range g.tries {
			if !q.has(g, offset) || g.isDone(offset) || !between(tries, 1, q.config.Deliveries) {
				t.Fatalf("group %q: %d was delivered %d times: %+v", name, offset, tries, g)
			}
		}
		for i, d := range g.dead {
			if !g.isDone(d.Offset) || d.Try != q.config.Deliveries || slices.Contains(g.dead[:i], d) || len(d.Body) > api.MaxBody {
				t.Fatalf("group %q: dead: %v", name, g.dead)
			}
		}
	}
}

// told checks that a queue's log makes the same queue again.
func told(t *testing.T, q *Queue) {
	t.Helper()
	x, e := Open(q.config, q.Log())
	if e != api.OK || x.Log() != q.Log() || string(x.snapshot()) != string(q.snapshot()) {
		t.Fatalf("Open of what Log told: %d", e)
	}
}

// spoilt changes one record of a log.
func spoilt(r *rand.Rand, list []entry) []entry {
	list = slices.Clone(list)
	i := r.Intn(len(list))
	switch data := []byte(list[i].data); r.Intn(8) {
	case 0:
		list[i].kind = "egrafcx"[r.Intn(7)]
	case 1:
		list = slices.Delete(list, i, i+1)
	case 2:
		list = slices.Insert(list, r.Intn(len(list)+1), list[i])
	case 3:
		list[i].data = list[i].data[:r.Intn(len(data)+1)]
	case 4:
		list[i].data += string(byte(r.Intn(4)))
	default:
		if len(data) > 0 {
			data[r.Intn(len(data))] = byte(r.Intn(6)) - 1
			list[i].data = string(data)
		}
	}
	return list
}

func TestOpenOfSpoiltRecordsIsRefusedOrSound(t *testing.T) {
	r := rand.New(rand.NewSource(1))
	data := whole(t)
	rows := [][]entry{
		append(good(), of(received, "g", 1), of(received, "g", 1, 3), entry{retained, ""}, entry{enqueued, "e"}, of(joined, "h", 5), of(received, "g", 3)),
		{{compacted, data}},
		{{compacted, data}, of(acked, "g", 4), of(received, "h", 5), of(acked, "g", 2)},
	}
	taken, refused := 0, 0
	for i := range 30000 {
		list := rows[i%len(rows)]
		for range 1 + r.Intn(3) {
			if len(list) > 0 {
				list = spoilt(r, list)
			}
		}
		q, e := Open(small, forge(small, list...))
		if (q == nil) != (e == api.ErrLog) || q != nil && e != api.OK {
			t.Fatalf("Open = %t, %d", q != nil, e)
		}
		if q == nil {
			refused++
			continue
		}
		taken++
		sound(t, q)
		told(t, q)
		q.Compact()
		told(t, q)
		for name := range q.groups {
			q.Receive(name, 32)
		}
		q.Retain()
		told(t, q)
	}
	if taken < 1000 || refused < 1000 {
		t.Errorf("%d were taken, %d refused: too few to tell much", taken, refused)
	}
}

// A try of a message is found again behind Compact and a crash, though no answer but the next delivery shows it.
func TestSnapshotTellsEachTry(t *testing.T) {
	for deliveries := 1; deliveries <= api.MaxDeliveries; deliveries++ {
		c := api.Config{Lease: 1, Deliveries: deliveries, Segment: 1, Kept: api.MaxKept}
		list := []entry{of(joined, "g", 0)}
		for tries := range deliveries + 1 {
			list = append(list, entry{enqueued, "x"})
			for range tries {
				list = append(list, of(received, "g", tries))
			}
		}
		q := accept(t, "all tries", c, list...)
		for range 2 {
			for tries := range deliveries + 1 {
				if n := q.groups["g"].tries[tries]; n != tries {
					t.Errorf("of %d deliveries: %d tries, want %d", deliveries, n, tries)
				}
			}
			q.Compact()
			q = accept(t, "compacted", c, entries(t, c, q.Log())...)
		}
	}
}

// One call, one record: else a cut could leave half of what it did.
func TestEachCallWritesOneRecord(t *testing.T) {
	c := api.Config{Lease: 10, Deliveries: 1, Segment: 2, Kept: 100}
	q, _ := Open(c, "")
	want := ""
	wrote := func(kinds string) {
		t.Helper()
		want += kinds
		got := ""
		for _, x := range entries(t, c, q.Log()) {
			got += string(rune(x.kind))
		}
		if got != want {
			t.Fatalf("the log has %s, want %s", got, want)
		}
	}
	wrote("")
	q.Enqueue("a")
	wrote("e")
	q.Group("g", 0)
	wrote("g")
	for range 99 {
		q.Enqueue("x")
	}
	wrote(strings.Repeat("e", 99))
	q.Receive("g", 32)
	q.Receive("g", 32)
	q.Receive("g", 32)
	wrote("rrr")
	q.Tick(10)
	// 96 die, and 4 are delivered.
	q.Receive("g", 32)
	wrote("r")
	q.Ack("g", 96, 1)
	q.Ack("g", 98, 1)
	wrote("aa")
	q.Retain()
	wrote("f")
	q.Compact()
	want = ""
	wrote("c")
	q.Enqueue("y")
	wrote("e")
}
