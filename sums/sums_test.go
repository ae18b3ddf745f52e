package sums_test

import (
	"hash/crc32"
	"strings"
	"testing"

	"quay/api"
	"quay/quay"
	"quay/sums"
)

// texts: none, one byte of each value, many bytes, and all lengths between.
func texts() []string {
	list := []string{""}
	var all strings.Builder
	for i := range 256 {
		one := string([]byte{byte(i)})
		list = append(list, one, one+one, "quay"+one)
		all.WriteString(one)
	}
	long := strings.Repeat("quay\x00\xff\x80 \n", 9)
	for n := range len(long) {
		list = append(list, long[:n+1])
	}
	return append(list, "123456789", all.String(), strings.Repeat(all.String(), 40), strings.Repeat("\x00", 999), strings.Repeat("\xff", 999))
}

// starts: sums to go on with, each bit alone among them.
func starts() []uint32 {
	list := []uint32{0, 1<<32 - 1, 0xcbf43926, 0x12345678}
	for bit := range 32 {
		list = append(list, 1<<bit)
	}
	return list
}

// both are the two ways to work a sum out.
func both() map[string]func(uint32, string) uint32 {
	return map[string]func(uint32, string) uint32{"Of": sums.Of, "ByTable": sums.ByTable}
}

// short tells a text, or only how it begins.
func short(text string) string {
	if len(text) > 20 {
		return text[:20] + "..."
	}
	return text
}

// spoil writes the table over until the test ends.
func spoil(t *testing.T) {
	was := *sums.SumTable
	t.Cleanup(func() { *sums.SumTable = was })
	for i := range sums.SumTable {
		sums.SumTable[i] = ^was[i]
	}
}

func TestTable(t *testing.T) {
	// Of the common table of 256, the half bytes that stand ahead are these.
	for i, s := range sums.SumTable {
		if want := crc32.IEEETable[i<<4]; s != want {
			t.Errorf("the table has %08x for %d, want %08x", s, i, want)
		}
	}
}

func TestOfAndByTableAreTheSame(t *testing.T) {
	for _, text := range texts() {
		for _, from := range starts() {
			if s, want := sums.ByTable(from, text), sums.Of(from, text); s != want {
				t.Errorf("from %08x over %q: ByTable %08x, Of %08x", from, short(text), s, want)
			}
		}
	}
}

func TestSumIsTheCommonOne(t *testing.T) {
	for name, sum := range both() {
		if s := sum(0, "123456789"); s != 0xcbf43926 {
			t.Errorf("%s: the sum is %08x, want cbf43926", name, s)
		}
		for _, text := range texts() {
			for _, from := range starts() {
				if s, want := sum(from, text), crc32.Update(from, crc32.IEEETable, []byte(text)); s != want {
					t.Errorf("%s from %08x over %q: %08x, want %08x", name, from, short(text), s, want)
				}
			}
		}
	}
}

func TestSumGoesOnInSteps(t *testing.T) {
	text := strings.Repeat("quay\x00\xff\x80 \n", 9)
	for name, sum := range both() {
		for n := range len(text) + 1 {
			if s, want := sum(sum(0, text[:n]), text[n:]), sum(0, text); s != want {
				t.Errorf("%s in two steps, the first of %d bytes: %08x, want %08x", name, n, s, want)
			}
		}
	}
}

func TestByTableAloneReadsTheTable(t *testing.T) {
	const text = "123456789"
	spoil(t)
	if s := sums.Of(0, text); s != 0xcbf43926 {
		t.Errorf("Of with another table: %08x, want cbf43926", s)
	}
	if s := sums.ByTable(0, text); s == 0xcbf43926 {
		t.Error("ByTable does not read the table")
	}
}

// calls makes calls of each kind on a queue that is opened of a log, and tells the logs that came of them.
func calls(t *testing.T, log string) [3]string {
	t.Helper()
	c := api.Config{Lease: 10, Deliveries: 2, Segment: 2, Kept: 50}
	q, e := quay.Open(c, log)
	if e != api.OK {
		t.Fatalf("Open of %d bytes: %d", len(log), e)
	}
	q.Group("g", 0)
	for range 4 {
		q.Enqueue("body")
	}
	list, _ := q.Receive("g", 3)
	for i, d := range list {
		switch i {
		case 0:
			q.Ack("g", d.Offset, d.Try)
		case 1:
			q.Nack("g", d.Offset, d.Try, 0)
		default:
			q.Extend("g", d.Offset, d.Try, 5)
		}
	}
	q.Tick(5)
	q.Receive("g", 1)
	q.Retain()
	q.Done("g")
	q.Dead("g")
	q.Span()
	logs := [3]string{q.Log()}
	q.Compact()
	logs[1] = q.Log()
	q.Enqueue("behind")
	logs[2] = q.Log()
	return logs
}

func TestCallsOfTheQueueDoNotReadTheTable(t *testing.T) {
	first := calls(t, "")
	second := calls(t, first[0])
	third := calls(t, second[2])
	spoil(t)
	if calls(t, "") != first || calls(t, first[0]) != second || calls(t, second[2]) != third {
		t.Error("with another table the same calls made other logs")
	}
}
