package sched

import (
	"fmt"
	"math/rand"
	"slices"
	"testing"

	"assize/api"
)

// made: a scheduler that can be.
func made(t *testing.T, tenants, strategies int) *Sched {
	t.Helper()
	s, err := New(tenants, strategies)
	if err != api.OK || s == nil {
		t.Fatalf("New(%d, %d): error %d", tenants, strategies, int(err))
	}
	return s
}

// adds: the query is added, or the error told.
func adds(t *testing.T, s *Sched, tenant, id, deadline int, want api.Errno) {
	t.Helper()
	if err := s.Add(tenant, id, deadline); err != want {
		t.Fatalf("Add(%d, %d, %d): error %d, not %d", tenant, id, deadline, int(err), int(want))
	}
}

// removes: the query is removed, or the error told.
func removes(t *testing.T, s *Sched, tenant, id int, want api.Errno) {
	t.Helper()
	if err := s.Remove(tenant, id); err != want {
		t.Fatalf("Remove(%d, %d): error %d, not %d", tenant, id, int(err), int(want))
	}
}

// ticks: one tick tells these runs and late ones.
func ticks(t *testing.T, s *Sched, wantRuns, wantLate []Run) {
	t.Helper()
	runs, late := s.Tick()
	if !slices.Equal(runs, wantRuns) || !slices.Equal(late, wantLate) {
		t.Fatalf("Tick: %v, %v, not %v, %v", runs, late, wantRuns, wantLate)
	}
}

// lines: the tenants' lines are these, of as many as are told.
func lines(t *testing.T, s *Sched, want ...[]int) {
	t.Helper()
	for tenant, ids := range want {
		if got := s.Queries(tenant); !slices.Equal(got, ids) {
			t.Fatalf("Queries(%d): %v, not %v", tenant, got, ids)
		}
	}
}

// now: the clock.
func now(t *testing.T, s *Sched, want int) {
	t.Helper()
	if got := s.Now(); got != want {
		t.Fatalf("Now: %d, not %d", got, want)
	}
}

// full: a scheduler of that many tenants, the last one of which has the queries 0 to n-1.
func full(t *testing.T, tenants, n int) *Sched {
	t.Helper()
	s := made(t, tenants, 2)
	for id := range n {
		adds(t, s, tenants-1, id, 0, api.OK)
	}
	return s
}

// kinds of calls.
const (
	add = iota
	remove
	tick
)

// event: one call.
type event struct{ kind, tenant, id, deadline int }

// does: what the call answers, as a text.
func does(s *Sched, e event) string {
	switch e.kind {
	case add:
		return fmt.Sprint("add", int(s.Add(e.tenant, e.id, e.deadline)))
	case remove:
		return fmt.Sprint("remove", int(s.Remove(e.tenant, e.id)))
	}
	runs, late := s.Tick()
	return fmt.Sprint("tick", runs, late)
}

type maker struct{ *rand.Rand }

func newMaker(seed int64) maker { return maker{rand.New(rand.NewSource(seed))} }

// event: a call by chance, of one of the first ids; most deadlines are soon.
func (m maker) event(tenants, ids, clock int) event {
	e := event{kind: m.Intn(3), tenant: m.Intn(tenants), id: m.Intn(ids) - 1, deadline: 0}
	if m.Intn(2) == 0 {
		e.deadline = max(0, clock-2+m.Intn(12))
	}
	switch m.Intn(40) {
	case 0:
		e.tenant = -1 - m.Intn(2)
	case 1:
		e.tenant = tenants + m.Intn(2)
	case 2:
		e.deadline = -1 - m.Intn(3)
	}
	return e
}
