package quay_test

import (
	"strconv"
	"strings"
	"testing"

	"quay/api"
	"quay/quay"
)

// told makes the queue of the document's examples 2 and 3.
func told(t *testing.T) *quay.Queue {
	t.Helper()
	q := open(t, example)
	for i, body := range []string{"a", "b", "c"} {
		enqueue(t, q, body, i)
	}
	group(t, q, "g", 1, api.OK)
	receive(t, q, "g", 9, api.Delivery{Offset: 1, Try: 1, Body: "b"}, api.Delivery{Offset: 2, Try: 1, Body: "c"})
	ack(t, q, "g", 2, 1, api.OK)
	tick(t, q, 10, api.OK)
	enqueue(t, q, "d", 3)
	receive(t, q, "g", 1, api.Delivery{Offset: 1, Try: 2, Body: "b"})
	nack(t, q, "g", 1, 2, 0, api.OK)
	receive(t, q, "g", 1, api.Delivery{Offset: 3, Try: 1, Body: "d"})
	retain(t, q, 2)
	return q
}

func TestExampleOfTheLog(t *testing.T) {
	q := told(t)
	group(t, q, "h", 1, api.ErrOffset)
	for range 3 {
		x := reopen(t, example, q.Log())
		span(t, x, 2, 4)
		done(t, x, "g", api.Range{Low: 1, High: 2})
		dead(t, x, "g", api.Delivery{Offset: 1, Try: 2, Body: "b"})
		group(t, x, "h", 1, api.ErrOffset)
		group(t, x, "g", 2, api.ErrTwice)
		ack(t, x, "g", 3, 1, api.ErrReceipt)
		receive(t, x, "g", 9, api.Delivery{Offset: 3, Try: 2, Body: "d"})
		ack(t, x, "g", 3, 2, api.OK)
		retain(t, x, 2)
		// The queue whose log it was knows nothing of it.
		span(t, q, 2, 4)
		q.Compact()
	}
	ack(t, q, "g", 3, 1, api.OK)
}

func TestLogOfANewQueueIsEmpty(t *testing.T) {
	for _, c := range configs() {
		q := open(t, c)
		if q.Log() != "" {
			t.Errorf("Log() = %q", q.Log())
		}
		q.Compact()
		if len(q.Log()) > 64 {
			t.Errorf("Compact wrote %d bytes", len(q.Log()))
		}
		x := reopen(t, c, q.Log())
		span(t, x, 0, 0)
		group(t, x, "g", 0, api.OK)
		enqueue(t, x, "0", 0)
		receive(t, x, "g", 1, of(0, 1))
	}
}

// growth checks what calls do to a log.
type growth struct {
	t   *testing.T
	q   *quay.Queue
	was string
}

// adds checks whether something was added since it was asked last.
func (g *growth) adds(what string, want bool) {
	g.t.Helper()
	log := g.q.Log()
	if !strings.HasPrefix(log, g.was) || (len(log) > len(g.was)) != want {
		g.t.Errorf("%s: the log goes from %d bytes to %d", what, len(g.was), len(log))
	}
	g.was = log
}

func TestCallsThatAddToTheLogAndCallsThatDoNot(t *testing.T) {
	q := open(t, example)
	g := &growth{t: t, q: q}
	nothing := func() {
		t.Helper()
		for _, x := range refusals(q.Span()) {
			x.on(q)
		}
		look(q)
		q.Log()
		g.adds("calls that are refused, or only ask", false)
	}
	nothing()
	retain(t, q, 0)
	g.adds("Retain without a group", false)
	enqueue(t, q, "", 0)
	g.adds("Enqueue of an empty body", true)
	group(t, q, "g", 0, api.OK)
	g.adds("Group", true)
	for _, x := range refusalsOf("g", q.Span()) {
		x.on(q)
	}
	g.adds("calls that are refused to a group", false)
	group(t, q, "h", 2, api.ErrOffset)
	retain(t, q, 0)
	g.adds("Group behind the end, Retain of nothing", false)
	receive(t, q, "g", 9, api.Delivery{Offset: 0, Try: 1})
	g.adds("Receive", true)
	receive(t, q, "g", 9)
	g.adds("Receive of what is leased", false)
	extend(t, q, "g", 0, 1, 5, api.OK)
	extend(t, q, "g", 0, 1, 60000, api.OK)
	g.adds("Extend", false)
	nack(t, q, "g", 0, 1, 5, api.OK)
	receive(t, q, "g", 9)
	tick(t, q, 0, api.OK)
	tick(t, q, 5, api.OK)
	g.adds("Nack, Receive of what waits, Tick", false)
	ack(t, q, "g", 0, 1, api.ErrReceipt)
	g.adds("Ack of what is not leased", false)
	receive(t, q, "g", 9, api.Delivery{Offset: 0, Try: 2})
	g.adds("Receive of what comes again", true)
	tick(t, q, 10, api.OK)
	g.adds("Tick by which a lease is over", false)
	receive(t, q, "g", 9)
	g.adds("Receive by which a message dies", true)
	receive(t, q, "g", 9)
	g.adds("Receive of nothing", false)
	enqueue(t, q, "1", 1)
	receive(t, q, "g", 1, of(1, 1))
	g.adds("Enqueue, Receive", true)
	retain(t, q, 0)
	g.adds("Retain of nothing", false)
	ack(t, q, "g", 1, 1, api.OK)
	g.adds("Ack", true)
	ack(t, q, "g", 1, 1, api.ErrReceipt)
	g.adds("Ack again", false)
	retain(t, q, 2)
	g.adds("Retain", true)
	retain(t, q, 0)
	g.adds("Retain again", false)
	nothing()
	for i := 2; i < 7; i++ {
		enqueue(t, q, "x", i)
		g.adds("Enqueue", true)
	}
	refused(t, q, "x", api.ErrFull)
	g.adds("Enqueue of too many", false)
}

func TestLogIsAddedToBehindCompactAndOpen(t *testing.T) {
	q := told(t)
	q.Compact()
	g := &growth{t: t, q: q, was: q.Log()}
	tick(t, q, 1, api.OK)
	g.adds("Tick", false)
	enqueue(t, q, "x", 4)
	g.adds("Enqueue", true)
	g.q = reopen(t, example, q.Log())
	receive(t, g.q, "g", 1, api.Delivery{Offset: 3, Try: 2, Body: "d"})
	g.adds("Receive", true)
	nack(t, g.q, "g", 3, 2, 0, api.OK)
	g.adds("Nack", false)
}

func TestOpenForgetsTimes(t *testing.T) {
	c := example
	c.Deliveries = 3
	q := filled(t, c, 5)
	group(t, q, "g", 0, api.OK)
	receive(t, q, "g", 4, each(0, 3, 1)...)
	tick(t, q, 7, api.OK)
	extend(t, q, "g", 0, 1, 60000, api.OK)
	nack(t, q, "g", 1, 1, 60000, api.OK)
	nack(t, q, "g", 2, 1, 0, api.OK)
	for range 2 {
		x := reopen(t, c, q.Log())
		for offset := range 5 {
			ack(t, x, "g", offset, 1, api.ErrReceipt)
			nack(t, x, "g", offset, 1, 0, api.ErrReceipt)
			extend(t, x, "g", offset, 1, 1, api.ErrReceipt)
		}
		receive(t, x, "g", 32, append(each(0, 3, 2), of(4, 1))...)
		// The leases are new: they end at Lease from then.
		tick(t, x, 9, api.OK)
		receive(t, x, "g", 32)
		tick(t, x, 1, api.OK)
		receive(t, x, "g", 32, append(each(0, 3, 3), of(4, 2))...)
		q.Compact()
	}
	// The leases and the delays of the first one go on: Compact ends none.
	receive(t, q, "g", 1, of(2, 2))
	ack(t, q, "g", 0, 1, api.OK)
	nack(t, q, "g", 3, 1, 0, api.OK)
	ack(t, q, "g", 1, 1, api.ErrReceipt)
	tick(t, q, 59999, api.OK)
	receive(t, q, "g", 32, of(2, 3), of(3, 2), of(4, 1))
	tick(t, q, 1, api.OK)
	receive(t, q, "g", 32, of(1, 2))
}

// A lease that was taken ahead of Compact may be acked behind it: that Ack must be found again.
func TestAckBehindCompactLasts(t *testing.T) {
	q := filled(t, example, 4)
	group(t, q, "g", 0, api.OK)
	receive(t, q, "g", 3, each(0, 2, 1)...)
	q.Compact()
	ack(t, q, "g", 1, 1, api.OK)
	x := reopen(t, example, q.Log())
	done(t, x, "g", api.Range{Low: 1, High: 1})
	receive(t, x, "g", 32, of(0, 2), of(2, 2), of(3, 1))
}

func TestBodiesAndNamesAreToldToTheByte(t *testing.T) {
	bodies := []string{"", "\x00", "\xff\xfe", strings.Repeat("\x00", 64), strings.Repeat("\xff", 64), "ä\n", "e\x00\x00\x01", "cgraf"}
	groups := []string{"\x00", "\xff", "a", strings.Repeat("\x00", 16), strings.Repeat("\xff", 16), "ä"}
	c := wide()
	c.Deliveries = 1
	q := open(t, c)
	for i, body := range bodies {
		enqueue(t, q, body, i)
	}
	for i, name := range groups {
		group(t, q, name, i, api.OK)
		if list, e := q.Receive(name, 1+i%3); e != api.OK || len(list) == 0 {
			t.Fatalf("Receive = %v, %d", list, e)
		}
	}
	tick(t, q, c.Lease, api.OK)
	for range 2 {
		x := reopen(t, c, q.Log())
		for i, name := range groups {
			var want, gone []api.Delivery
			for offset := i; offset < len(bodies); offset++ {
				d := api.Delivery{Offset: offset, Try: 1, Body: bodies[offset]}
				if offset < i+1+i%3 {
					gone = append(gone, d)
				} else {
					want = append(want, d)
				}
			}
			receive(t, x, name, 32, want...)
			dead(t, x, name, gone...)
		}
		q.Compact()
	}
}

// crowded opens a queue that has as much as can be: all of 400 messages are dead to each of six groups, and as many are kept as may be.
func crowded(t *testing.T, body string) *quay.Queue {
	t.Helper()
	c := api.Config{Lease: 1, Deliveries: 1, Segment: 1, Kept: 100}
	q := open(t, c)
	for i := range 6 {
		group(t, q, strings.Repeat(strconv.Itoa(i), 16), 0, api.OK)
	}
	for offset := range 400 {
		if offset > 0 && offset%100 == 0 {
			retain(t, q, 100)
		}
		enqueue(t, q, body, offset)
		for i := range 6 {
			name := strings.Repeat(strconv.Itoa(i), 16)
			receive(t, q, name, 1, api.Delivery{Offset: offset, Try: 1, Body: body})
			nack(t, q, name, offset, 1, 0, api.OK)
			receive(t, q, name, 1)
		}
	}
	span(t, q, 300, 400)
	return q
}

func TestCompactOfAsMuchAsCanBe(t *testing.T) {
	for _, size := range []int{0, 1, 64} {
		q := crowded(t, strings.Repeat("x", size))
		before := drain(reopen(t, api.Config{Lease: 1, Deliveries: 1, Segment: 1, Kept: 100}, q.Log()), 1)
		q.Compact()
		room := 64 + 6*(32+16) + 100*(8+size+4*6) + 6*400*(8+size)
		if n := len(q.Log()); n > room {
			t.Errorf("bodies of %d bytes: Compact wrote %d bytes, want %d at most", size, n, room)
		}
		if drain(reopen(t, api.Config{Lease: 1, Deliveries: 1, Segment: 1, Kept: 100}, q.Log()), 1) != before {
			t.Errorf("bodies of %d bytes: Compact changed something", size)
		}
	}
}

// What is done lies in many pieces, and the log has no room for each piece beyond that of its message.
func TestCompactOfManyPieces(t *testing.T) {
	c := api.Config{Lease: 1, Deliveries: 10, Segment: 1, Kept: 100}
	q := filled(t, c, 100)
	room := 64
	for i := range 6 {
		name := strconv.Itoa(i)
		group(t, q, name, 0, api.OK)
		for range 4 {
			list, _ := q.Receive(name, 32)
			for _, d := range list {
				if d.Offset%2 == i%2 {
					ack(t, q, name, d.Offset, 1, api.OK)
				}
			}
		}
		room += 32 + 1
	}
	for i := range 100 {
		room += 8 + len(strconv.Itoa(i)) + 4*6
	}
	q.Compact()
	if n := len(q.Log()); n > room {
		t.Errorf("Compact wrote %d bytes, want %d at most", n, room)
	}
	x := reopen(t, c, q.Log())
	for i := range 6 {
		set, _ := x.Done(strconv.Itoa(i))
		if len(set) != 50 || set[0].Low != i%2 {
			t.Errorf("Done = %v", set)
		}
	}
}

func TestCompactTwiceIsTheSame(t *testing.T) {
	q := told(t)
	q.Compact()
	log := q.Log()
	for range 20 {
		q.Compact()
		if q.Log() != log {
			t.Fatal("Compact wrote another log of the same")
		}
		x := reopen(t, example, log)
		x.Compact()
		if x.Log() != log {
			t.Fatal("Compact wrote another log of the same, opened anew")
		}
	}
}

// A log that was laid by must be opened by whatever program comes later: its bytes stay.
func TestLogHasTheBytesThatItAlwaysHad(t *testing.T) {
	q := told(t)
	want := "e\x00\x00\x01\x93\x0c\x1f\x93" + "a\x81\x22\x70\xa2" +
		"e\x00\x00\x01\xd4\x25\xa4\xf3" + "b\x55\xde\x69\xfb" +
		"e\x00\x00\x01\x48\x60\xc4\x58" + "c\x63\x41\x66\x6d" +
		"g\x00\x00\x04\x38\x17\x02\x55" + "\x01g\x00\x01\x71\xb1\x42\xbc" +
		"r\x00\x00\x06\xf7\x77\x64\xe1" + "\x01g\x00\x01\x00\x02\x49\x89\x36\x9a" +
		"a\x00\x00\x04\xb2\xe9\xc9\xb7" + "\x01g\x00\x02\x8e\x66\x45\x19" +
		"e\x00\x00\x01\x38\x5c\xdd\x83" + "d\xec\x54\xc4\x8b" +
		"r\x00\x00\x04\x3c\x8a\x4a\xb7" + "\x01g\x00\x01\xb0\xcc\x27\x39" +
		"r\x00\x00\x06\x15\x1e\xde\xbe" + "\x01g\x00\x01\x00\x03\x75\x69\x10\xdc" +
		"f\x00\x00\x00\xdb\xfd\x87\xcf" + "\xdb\xfd\x87\xcf"
	if q.Log() != want {
		t.Errorf("the log is %x, want %x", q.Log(), want)
	}
	q.Compact()
	want = "c\x00\x00\x16\x35\xb4\xc5\x88" +
		"\x00\x02\x00\x02\x01c\x01d\x00\x01\x01g\x00\x01\xff\x01\x00\x01\x00\x01\x01b" + "\xd6\x75\x60\xa3"
	if q.Log() != want {
		t.Errorf("Compact wrote %x, want %x", q.Log(), want)
	}
}

// No log comes out of the order of a map: six groups would stand in another order in most runs.
func TestLogsAreTheSameInEveryRun(t *testing.T) {
	logs := func() [2]string {
		q := filled(t, wide(), 10)
		for i, name := range []string{"f", "b", "e", "a", "d", "c"} {
			group(t, q, name, i, api.OK)
			take(t, q, name, i, 1)
		}
		log := q.Log()
		q.Compact()
		return [2]string{log, q.Log()}
	}
	want := logs()
	for range 50 {
		if logs() != want {
			t.Fatal("the same calls made another log")
		}
	}
}

func TestQueuesOfOneLogAreTwo(t *testing.T) {
	log := told(t).Log()
	one, other := reopen(t, example, log), reopen(t, example, log)
	receive(t, one, "g", 9, api.Delivery{Offset: 3, Try: 2, Body: "d"})
	ack(t, one, "g", 3, 2, api.OK)
	retain(t, one, 2)
	one.Compact()
	if other.Log() != log {
		t.Error("the log of the other one changed")
	}
	span(t, other, 2, 4)
	receive(t, other, "g", 9, api.Delivery{Offset: 3, Try: 2, Body: "d"})
}

// no checks that a text is no log.
func no(t *testing.T, what string, c api.Config, text string) {
	t.Helper()
	if q, e := quay.Open(c, text); q != nil || e != api.ErrLog {
		t.Errorf("%s: Open = %t, %d, want no queue, %d", what, q != nil, e, api.ErrLog)
	}
}

func TestOpenOfWhatCompactWroteNeedsAllOfIt(t *testing.T) {
	q := told(t)
	q.Compact()
	whole := len(q.Log())
	enqueue(t, q, "e", 4)
	for n := 1; n < whole; n++ {
		no(t, "cut at "+strconv.Itoa(n), example, q.Log()[:n])
	}
	for n := whole; n < len(q.Log()); n++ {
		x, e := quay.Open(example, q.Log()[:n])
		if e != api.OK || x.Log() != q.Log()[:whole] {
			t.Fatalf("cut at %d: %d", n, e)
		}
		span(t, x, 2, 4)
	}
	span(t, open(t, example), 0, 0)
}

// A log in which a byte was changed is not a shorter one: nothing is lost unseen.
func TestOpenSeesEachChangedByte(t *testing.T) {
	q := told(t)
	for range 2 {
		enqueue(t, q, "tail", q.Span().High)
		log := []byte(q.Log())
		for i, was := range log {
			for b := range 256 {
				if byte(b) != was {
					log[i] = byte(b)
					no(t, "byte "+strconv.Itoa(i), example, string(log))
				}
			}
			log[i] = was
		}
		reopen(t, example, string(log))
		q.Compact()
	}
}

// lengths tells the lengths that a queue's log had.
func lengths(stands []stand) []int {
	var list []int
	for _, s := range stands {
		list = append(list, s.length)
	}
	return list
}

func TestOpenSeesRecordsThatAreMissingOrMoved(t *testing.T) {
	for _, seed := range []uint64{700, 701} {
		log, stands := logged(t, example, seed, 60)
		at := lengths(stands)
		for i := 0; i+2 < len(at); i++ {
			first, second := log[at[i]:at[i+1]], log[at[i+1]:at[i+2]]
			no(t, "one left out", example, log[:at[i]]+log[at[i+1]:])
			no(t, "one doubled", example, log[:at[i+1]]+first+log[at[i+1]:])
			no(t, "two changed about", example, log[:at[i]]+second+first+log[at[i+2]:])
			no(t, "a piece left out", example, log[:at[i]+1]+log[at[i]+2:])
		}
		no(t, "twice", example, log+log)
		for _, junk := range []string{"\x00", "x", " ", "\n", "\xff", "c", strings.Repeat("\x00", 100), "e" + strings.Repeat("\x00", 100)} {
			no(t, "junk behind it", example, log+junk)
			no(t, "junk ahead of it", example, junk+log)
		}
	}
}

func TestOpenOfALogOfAnotherConfig(t *testing.T) {
	q := told(t)
	for range 2 {
		for _, c := range []api.Config{
			{Lease: 11, Deliveries: 2, Segment: 2, Kept: 5},
			{Lease: 10, Deliveries: 1, Segment: 2, Kept: 5},
			{Lease: 10, Deliveries: 3, Segment: 2, Kept: 5},
			{Lease: 10, Deliveries: 2, Segment: 1, Kept: 5},
			{Lease: 10, Deliveries: 2, Segment: 2, Kept: 4},
			{Lease: 10, Deliveries: 2, Segment: 2, Kept: 6},
		} {
			no(t, "another configuration", c, q.Log())
		}
		for _, c := range wrongConfigs() {
			if x, e := quay.Open(c, q.Log()); x != nil || e != api.ErrConfig {
				t.Errorf("Open(%+v) of a log = %t, %d, want no queue, %d", c, x != nil, e, api.ErrConfig)
			}
		}
		q.Compact()
	}
}

// wrongTexts: pieces of logs, changed and put together, and bytes without sense.
func wrongTexts(p *player, log string) string {
	text := log
	for range 1 + p.draw(3) {
		i := p.draw(len(text) + 1)
		j := i + p.draw(len(text)-i+1)
		switch p.draw(5) {
		case 0:
			text = text[:i]
		case 1:
			text = text[:i] + text[j:]
		case 2:
			text = text[:j] + text[i:]
		case 3:
			text = text[:i] + string([]byte{byte(p.draw(256))}) + text[i:]
		default:
			text = text[:i] + strings.Repeat(string([]byte{byte(p.draw(256))}), p.draw(40)) + text[j:]
		}
	}
	return text
}

// Of every text there is ErrLog, or a queue that goes on as queues do, and whose own log makes it again.
func TestOpenOfEveryText(t *testing.T) {
	for _, c := range configs() {
		for seed := range uint64(2) {
			log, _ := logged(t, c, seed+800, 150)
			p := &player{seed: seed}
			for i := range 300 {
				text := wrongTexts(p, log)
				q, e := quay.Open(c, text)
				if (q == nil) != (e == api.ErrLog) || q != nil && e != api.OK {
					t.Fatalf("Open of %q = %t, %d", text, q != nil, e)
				}
				if q == nil {
					continue
				}
				if !strings.HasPrefix(text, q.Log()) {
					t.Fatalf("Open of %q: its log is %q", text, q.Log())
				}
				if i%10 == 0 {
					twin := reopen(t, c, q.Log())
					if drain(q, c.Lease) != drain(twin, c.Lease) || q.Log() != twin.Log() {
						t.Fatalf("Open of %q: two queues are not the same", text)
					}
				}
			}
		}
	}
}

func FuzzOpen(f *testing.F) {
	q, _ := quay.Open(example, "")
	f.Add(q.Log())
	q.Group("g", 0)
	q.Enqueue("a")
	q.Receive("g", 1)
	f.Add(q.Log())
	q.Ack("g", 0, 1)
	q.Retain()
	f.Add(q.Log())
	q.Compact()
	f.Add(q.Log())
	q.Enqueue("b")
	f.Add(q.Log())
	f.Fuzz(func(t *testing.T, text string) {
		q, e := quay.Open(example, text)
		if (q == nil) != (e == api.ErrLog) || q != nil && e != api.OK {
			t.Fatalf("Open of %q = %t, %d", text, q != nil, e)
		}
		if q == nil {
			return
		}
		twin := reopen(t, example, q.Log())
		if drain(q, example.Lease) != drain(twin, example.Lease) || q.Log() != twin.Log() {
			t.Fatalf("Open of %q: two queues are not the same", text)
		}
	})
}
