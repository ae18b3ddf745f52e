package quay

import (
	"testing"

	"quay/api"
)

// expect checks how many tries and waits a group keeps.
func expect(t *testing.T, g *group, tries, waits int) {
	t.Helper()
	if len(g.tries) != tries || len(g.waits) != waits {
		t.Fatalf("kept: %d tries and %d waits, want %d and %d", len(g.tries), len(g.waits), tries, waits)
	}
}

// What is over is deleted and cleared: no answer shows it, but else a queue would grow for ever.
func TestNothingIsKeptThatIsOver(t *testing.T) {
	q, _ := Open(api.Config{Lease: 10, Deliveries: 1, Segment: 2, Kept: 5}, "")
	for range 5 {
		q.Enqueue("x")
	}
	q.Group("g", 0)
	g := q.groups["g"]
	expect(t, g, 0, 0)
	q.Receive("g", 4)
	expect(t, g, 4, 4)
	q.Ack("g", 0, 1)
	expect(t, g, 3, 3)
	q.Nack("g", 1, 1, 0)
	expect(t, g, 3, 2)
	q.Nack("g", 2, 1, 5)
	q.Extend("g", 3, 1, 20)
	expect(t, g, 3, 2)
	q.Tick(5)
	expect(t, g, 3, 1)
	q.Receive("g", 1) // 1 and 2 die, 4 is delivered
	expect(t, g, 2, 2)
	q.Tick(15)
	expect(t, g, 2, 0)
	q.Receive("g", 1)
	expect(t, g, 0, 0)
	bodies := q.bodies
	if n := q.Retain(); n != 4 || len(q.bodies) != 1 {
		t.Fatalf("Retain() = %d, %d bodies are kept, want 4, 1", n, len(q.bodies))
	}
	for i, body := range bodies[:4] {
		if body != "" {
			t.Errorf("the body of %d still lies there: %q", i, body)
		}
	}
}
