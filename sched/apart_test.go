package sched

import (
	"fmt"
	"slices"
	"sync"
	"testing"

	"assize/api"
)

// seen: what the tenant is told by its own call, or of its own queries by a tick, and sees by all looks then.
func seen(s *Sched, e event, me int) string {
	var told string
	if e.kind == tick {
		runs, late := s.Tick()
		told = fmt.Sprint(own(runs, me), own(late, me))
	} else {
		e.tenant = me
		told = does(s, e)
	}
	return fmt.Sprint(told, s.Queries(me), s.Now())
}

// own: what of the list is the tenant's, the tenant left out.
func own(list []Run, me int) []Run {
	var part []Run
	for _, run := range list {
		if run.Tenant == me {
			part = append(part, Run{0, run.Id, run.Strategy})
		}
	}
	return part
}

// P2104: what a tenant sees is the same, whatever the others do, and whether there are others.
func TestTenantsApart(t *testing.T) {
	m := newMaker(212)
	for range 300 {
		strategies := 1 + m.Intn(4)
		alone := made(t, 1, strategies)
		var script []event
		var want []string
		for range 150 {
			e := m.event(1, 8, alone.Now())
			script = append(script, e)
			want = append(want, seen(alone, e, 0))
		}
		for range 2 {
			tenants := 2 + m.Intn(3)
			s, me := made(t, tenants, strategies), m.Intn(tenants)
			for i, e := range script {
				for range m.Intn(5) {
					e := m.event(tenants, 100, s.Now())
					e.tenant, e.kind = (me+1+m.Intn(tenants-1))%tenants, m.Intn(2)
					does(s, e)
				}
				if got := seen(s, e, me); got != want[i] {
					t.Fatalf("%v: %s, not %s", e, got, want[i])
				}
			}
		}
	}
}

// P2104: a line that is full fills nobody else's.
func TestFullApart(t *testing.T) {
	s := made(t, 3, 2)
	for id := range 64 {
		adds(t, s, 1, id, 0, api.OK)
	}
	adds(t, s, 0, 3, 2, api.OK)
	adds(t, s, 2, 4, 0, api.OK)
	ticks(t, s, []Run{{0, 3, 0}, {1, 0, 0}, {2, 4, 0}}, nil)
	ticks(t, s, []Run{{1, 1, 0}, {2, 4, 1}}, []Run{{0, 3, 0}})
}

// spoil: writes over all that the list has, its spare room too, and tells whether it was written over before.
func spoil[T comparable](list []T, with T) bool {
	all := list[:cap(list)]
	twice := slices.Contains(all, with)
	for i := range all {
		all[i] = with
	}
	return twice
}

// Rule 4: what is handed out is new memory each time, and no two lists of it share any; nobody sees what is written there.
func TestHandedOut(t *testing.T) {
	m := newMaker(213)
	bad := Run{-7, -7, -7}
	for range 200 {
		tenants := 1 + m.Intn(4)
		s, d := made(t, tenants, 2), newModel(tenants, 2)
		met := map[string]int{}
		for range 200 {
			e := m.event(tenants, 8, d.clock)
			if e.kind != tick {
				d.same(t, s, e, met)
				continue
			}
			runs, late := s.Tick()
			wantRuns, wantLate := d.tick()
			if !slices.Equal(runs, wantRuns) || !slices.Equal(late, wantLate) || spoil(runs, bad) || spoil(late, bad) {
				t.Fatalf("Tick: %v, %v, not %v, %v, or they share memory", runs, late, wantRuns, wantLate)
			}
			for tenant := range tenants {
				one, two := s.Queries(tenant), s.Queries(tenant)
				if !slices.Equal(one, d.ids(tenant)) || spoil(one, -7) || !slices.Equal(two, d.ids(tenant)) || spoil(two, -7) {
					t.Fatalf("Queries(%d): %v, %v, or they share memory", tenant, one, two)
				}
			}
		}
	}
}

// Rule 5: two schedulers share nothing, also where they are used side by side.
func TestSchedsApart(t *testing.T) {
	m := newMaker(215)
	var script []event
	for i := range 600 {
		script = append(script, m.event(3, 8, i/3))
	}
	answers := func() string {
		s, err := New(3, 3)
		out := fmt.Sprint(int(err))
		for _, e := range script {
			out += does(s, e) + fmt.Sprint(s.Queries(0), s.Queries(1), s.Queries(2), s.Now())
		}
		return out
	}
	want := answers()
	var all sync.WaitGroup
	for range 8 {
		all.Go(func() {
			if answers() != want {
				t.Error("side by side something else")
			}
		})
	}
	all.Wait()
}
