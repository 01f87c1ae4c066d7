package sched

import (
	"slices"
	"testing"

	"assize/api"
)

// asked: a query of the model: when it went behind all others of its line last, and how often it ran.
type asked struct{ id, deadline, went, turn int }

// model: the chapter's words as plainly as can be: a line is what it has, by when each went behind all others.
type model struct {
	strategies, clock, calls int
	tenants                  []map[int]asked
}

func newModel(tenants, strategies int) *model {
	d := &model{strategies: strategies}
	for range tenants {
		d.tenants = append(d.tenants, map[int]asked{})
	}
	return d
}

func (d *model) has(tenant int) bool { return tenant >= 0 && tenant < len(d.tenants) }

// line: the queries in the order in which they come to run.
func (d *model) line(tenant int) []asked {
	var list []asked
	if d.has(tenant) {
		for _, q := range d.tenants[tenant] {
			list = append(list, q)
		}
	}
	slices.SortFunc(list, func(a, b asked) int { return a.went - b.went })
	return list
}

func (d *model) ids(tenant int) []int {
	var list []int
	for _, q := range d.line(tenant) {
		list = append(list, q.id)
	}
	return list
}

func (d *model) add(e event) api.Errno {
	if !d.has(e.tenant) || e.deadline < 0 {
		return api.ErrArg
	}
	if _, there := d.tenants[e.tenant][e.id]; there {
		return api.ErrTwice
	}
	if len(d.tenants[e.tenant]) == 64 {
		return api.ErrFull
	}
	d.calls++
	d.tenants[e.tenant][e.id] = asked{id: e.id, deadline: e.deadline, went: d.calls}
	return api.OK
}

func (d *model) remove(e event) api.Errno {
	if !d.has(e.tenant) {
		return api.ErrArg
	}
	if _, there := d.tenants[e.tenant][e.id]; !there {
		return api.ErrGone
	}
	delete(d.tenants[e.tenant], e.id)
	return api.OK
}

func (d *model) tick() (runs, late []Run) {
	d.clock++
	for tenant, queries := range d.tenants {
		for _, q := range d.line(tenant) {
			if q.deadline != 0 && d.clock >= q.deadline {
				late = append(late, Run{tenant, q.id, 0})
				delete(queries, q.id)
			}
		}
		if line := d.line(tenant); len(line) > 0 {
			q := line[0]
			runs = append(runs, Run{tenant, q.id, q.turn % d.strategies})
			d.calls++
			q.turn, q.went = q.turn+1, d.calls
			queries[q.id] = q
		}
	}
	return runs, late
}

// P2101, P2102, P2103: scripts of calls by chance are answered as the model answers them, and all looks then.
func TestModel(t *testing.T) {
	m := newMaker(211)
	met := map[string]int{}
	for range 600 {
		tenants, strategies, ids := 1+m.Intn(5), 1+m.Intn(5), 2+m.Intn(8)
		if m.Intn(6) == 0 {
			ids = 80
		}
		s, d := made(t, tenants, strategies), newModel(tenants, strategies)
		for i := range 500 {
			e := m.event(tenants, ids, d.clock)
			if ids == 80 && i < 300 { // so that lines come to be full
				e.kind = min(e.kind, m.Intn(30)/27)
				e.tenant, e.deadline = min(e.tenant, i%2), min(e.deadline, 0)
			}
			d.same(t, s, e, met)
			for tenant := -1; tenant <= tenants; tenant++ {
				if got, want := s.Queries(tenant), d.ids(tenant); !slices.Equal(got, want) {
					t.Fatalf("Queries(%d): %v, not %v", tenant, got, want)
				}
			}
			now(t, s, d.clock)
		}
	}
	for kind, least := range map[string]int{"added": 10000, "removed": 10000, "twice": 10000, "gone": 10000, "full": 300, "wrong": 5000, "run": 50000, "late": 5000, "more than one late": 300, "strategy": 10000, "late and run": 3000} {
		if met[kind] < least {
			t.Errorf("%s: only %d", kind, met[kind])
		}
	}
}

// same: the call is answered as the model answers it.
func (d *model) same(t *testing.T, s *Sched, e event, met map[string]int) {
	t.Helper()
	var want api.Errno
	switch e.kind {
	case add:
		want = d.add(e)
		adds(t, s, e.tenant, e.id, e.deadline, want)
		met[map[api.Errno]string{api.OK: "added", api.ErrArg: "wrong", api.ErrTwice: "twice", api.ErrFull: "full"}[want]]++
	case remove:
		want = d.remove(e)
		removes(t, s, e.tenant, e.id, want)
		met[map[api.Errno]string{api.OK: "removed", api.ErrArg: "wrong", api.ErrGone: "gone"}[want]]++
	case tick:
		runs, late := d.tick()
		ticks(t, s, runs, late)
		d.count(runs, late, met)
	}
}

// count: of what kinds the tick was.
func (d *model) count(runs, late []Run, met map[string]int) {
	met["run"] += len(runs)
	met["late"] += len(late)
	for _, run := range runs {
		if run.Strategy > 0 {
			met["strategy"]++
		}
		if slices.ContainsFunc(late, func(l Run) bool { return l.Tenant == run.Tenant }) {
			met["late and run"]++
		}
	}
	for i, l := range late {
		if i > 0 && late[i-1].Tenant == l.Tenant {
			met["more than one late"]++
		}
	}
}
