package sched

import (
	"math"
	"slices"
	"testing"

	"assize/api"
)

// P2102: the chapter's example.
func TestExample(t *testing.T) {
	s := made(t, 1, 2)
	adds(t, s, 0, 7, 0, api.OK)
	adds(t, s, 0, 8, 0, api.OK)
	for _, run := range []Run{{0, 7, 0}, {0, 8, 0}, {0, 7, 1}, {0, 8, 1}, {0, 7, 0}} {
		ticks(t, s, []Run{run}, nil)
	}
}

// P2102: nothing of nil, and of whom nobody asks anything; the clock goes on.
func TestTickOfNothing(t *testing.T) {
	runs, late := (*Sched)(nil).Tick()
	if len(runs)+len(late) > 0 {
		t.Errorf("of nil: %v, %v", runs, late)
	}
	s := made(t, 16, 16)
	for tick := range 100 {
		now(t, s, tick)
		ticks(t, s, nil, nil)
	}
}

// P2102: one run of each line that is not empty, by rising tenants, however long the lines are.
func TestTickRuns(t *testing.T) {
	s := made(t, 4, 3)
	for id := range 5 {
		adds(t, s, 3, id, 0, api.OK)
	}
	adds(t, s, 0, 1, 0, api.OK)
	adds(t, s, 2, 1, 0, api.OK)
	adds(t, s, 2, 0, 0, api.OK)
	ticks(t, s, []Run{{0, 1, 0}, {2, 1, 0}, {3, 0, 0}}, nil)
	ticks(t, s, []Run{{0, 1, 1}, {2, 0, 0}, {3, 1, 0}}, nil)
	removes(t, s, 0, 1, api.OK)
	ticks(t, s, []Run{{2, 1, 1}, {3, 2, 0}}, nil)
	adds(t, s, 1, 4, 0, api.OK)
	ticks(t, s, []Run{{1, 4, 0}, {2, 0, 1}, {3, 3, 0}}, nil)
	lines(t, s, nil, []int{4}, []int{1, 0}, []int{4, 0, 1, 2, 3})
}

// P2102: a query is late at the tick at which the clock comes to its deadline, not ahead of it; 0 is none.
func TestDeadline(t *testing.T) {
	for deadline := 1; deadline < 40; deadline++ {
		s := made(t, 1, 2)
		adds(t, s, 0, 5, 0, api.OK)
		adds(t, s, 0, 6, deadline, api.OK)
		for tick := 1; tick < deadline; tick++ {
			if _, late := s.Tick(); len(late) > 0 {
				t.Fatalf("deadline %d: late at %d", deadline, tick)
			}
		}
		if _, late := s.Tick(); !slices.Equal(late, []Run{{0, 6, 0}}) {
			t.Fatalf("deadline %d: %v", deadline, late)
		}
		now(t, s, deadline)
		lines(t, s, []int{5})
		removes(t, s, 0, 6, api.ErrGone)
		for range 40 {
			if _, late := s.Tick(); len(late) > 0 {
				t.Fatalf("late again: %v", late)
			}
		}
	}
}

// P2102: a deadline that is behind the clock, or just there, is taken, and is late at the next tick, without a run.
func TestDeadlineIsPast(t *testing.T) {
	for deadline := 1; deadline <= 6; deadline++ {
		s := made(t, 2, 2)
		for range 5 {
			s.Tick()
		}
		adds(t, s, 1, 5, deadline, api.OK)
		lines(t, s, nil, []int{5})
		now(t, s, 5)
		ticks(t, s, nil, []Run{{1, 5, 0}})
		lines(t, s, nil, nil)
		ticks(t, s, nil, nil)
	}
}

// P2102: the late ones by rising tenants, in the order of the line then, not of deadlines, numbers, or calls of Add.
func TestLateInOrder(t *testing.T) {
	s := made(t, 3, 2)
	for _, e := range []event{{tenant: 2, id: 1, deadline: 3}, {tenant: 2, id: 9, deadline: 2}, {tenant: 0, id: 5, deadline: 3}, {tenant: 0, id: 6}, {tenant: 0, id: 4, deadline: 3}, {tenant: 0, id: 3, deadline: 3}, {tenant: 2, id: 0, deadline: 3}} {
		adds(t, s, e.tenant, e.id, e.deadline, api.OK)
	}
	ticks(t, s, []Run{{0, 5, 0}, {2, 1, 0}}, nil)
	ticks(t, s, []Run{{0, 6, 0}, {2, 0, 0}}, []Run{{2, 9, 0}})
	lines(t, s, []int{4, 3, 5, 6}, nil, []int{1, 0})
	adds(t, s, 1, 8, 1, api.OK)
	ticks(t, s, []Run{{0, 6, 1}}, []Run{{0, 4, 0}, {0, 3, 0}, {0, 5, 0}, {1, 8, 0}, {2, 1, 0}, {2, 0, 0}})
	lines(t, s, []int{6}, nil, nil)
}

// P2102: late ones are gone ahead of the runs: the next one runs at the same tick, with its own turn; a late one's turn is not told.
func TestLateThenRuns(t *testing.T) {
	s := made(t, 1, 3)
	adds(t, s, 0, 1, 5, api.OK)
	adds(t, s, 0, 2, 0, api.OK)
	for _, run := range []Run{{0, 1, 0}, {0, 2, 0}, {0, 1, 1}, {0, 2, 1}} {
		ticks(t, s, []Run{run}, nil)
	}
	lines(t, s, []int{1, 2})
	ticks(t, s, []Run{{0, 2, 2}}, []Run{{0, 1, 0}})
	adds(t, s, 0, 1, 0, api.OK)
	ticks(t, s, []Run{{0, 2, 0}}, nil)
	ticks(t, s, []Run{{0, 1, 0}}, nil)
}

// P2102: all of a full line may be late at once.
func TestAllLate(t *testing.T) {
	s := made(t, 2, 1)
	var want []Run
	for tenant := range 2 {
		for id := range 64 {
			adds(t, s, tenant, 63-id, 1, api.OK)
			want = append(want, Run{tenant, 63 - id, 0})
		}
	}
	ticks(t, s, nil, want)
	lines(t, s, nil, nil)
	adds(t, s, 1, 5, 0, api.OK)
	ticks(t, s, []Run{{1, 5, 0}}, nil)
}

// The words: the clock stays at 2^40, where ticks still run queries, and later deadlines are never met.
func TestClockStays(t *testing.T) {
	const end = 1 << 40
	s := made(t, 1, 3)
	s.now = end - 2 // so many ticks can't be made here
	for id, deadline := range []int{0, end - 1, end, end + 1, math.MaxInt} {
		adds(t, s, 0, id, deadline, api.OK)
	}
	ticks(t, s, []Run{{0, 0, 0}}, []Run{{0, 1, 0}})
	now(t, s, end-1)
	ticks(t, s, []Run{{0, 3, 0}}, []Run{{0, 2, 0}})
	now(t, s, end)
	adds(t, s, 0, 7, end, api.OK)
	adds(t, s, 0, 8, end-1, api.OK)
	ticks(t, s, []Run{{0, 4, 0}}, []Run{{0, 7, 0}, {0, 8, 0}})
	for turn := 1; turn < 30; turn++ {
		for id := range 3 {
			now(t, s, end)
			ticks(t, s, []Run{{0, []int{0, 3, 4}[id], turn % 3}}, nil)
		}
	}
}

// P2104: of a line that stays, each runs once in as many ticks as it has queries, and with each strategy once in that many times the strategies, from any tick on.
func TestFair(t *testing.T) {
	m := newMaker(214)
	for range 300 {
		n, strategies := 1+m.Intn(12), 1+m.Intn(6)
		if m.Intn(10) == 0 {
			n, strategies = 64, 16
		}
		s, met := made(t, 2, strategies), map[Run]int{}
		m.history(t, s, n)
		var told []Run
		for range n * strategies {
			m.other(s)
			runs, late := s.Tick()
			if len(late) > 0 || runs[len(runs)-1].Tenant != 1 {
				t.Fatalf("%v, %v", runs, late)
			}
			told = append(told, runs[len(runs)-1])
		}
		for at, run := range told {
			met[run]++
			for _, next := range told[at+1 : min(at+n, len(told))] {
				if run.Id == next.Id {
					t.Fatalf("%d twice in %d ticks: %v", run.Id, n, told)
				}
			}
		}
		if len(met) != n*strategies {
			t.Fatalf("%d queries, %d strategies: %v", n, strategies, told)
		}
	}
}

// history: tenant 1 has n queries then, which came and ran as chance had it.
func (m maker) history(t *testing.T, s *Sched, n int) {
	for id := range n {
		adds(t, s, 1, id, 0, api.OK)
		for range m.Intn(4) {
			if m.Intn(3) == 0 {
				s.Remove(1, id)
				adds(t, s, 1, id, 0, api.OK)
			}
			s.Tick()
		}
	}
}

// other: a call by tenant 0.
func (m maker) other(s *Sched) {
	id := m.Intn(20)
	if s.Add(0, id, 0) == api.ErrTwice {
		s.Remove(0, id)
	}
}
