package sched

import (
	"math"
	"slices"
	"testing"

	"assize/api"
)

// P2101: as many tenants and strategies as can be, and one more.
func TestNew(t *testing.T) {
	for _, c := range []struct {
		tenants, strategies int
		want                api.Errno
	}{
		{1, 1, api.OK}, {16, 1, api.OK}, {1, 16, api.OK}, {16, 16, api.OK}, {api.MaxTenants, 3, api.OK},
		{0, 1, api.ErrArg}, {1, 0, api.ErrArg}, {17, 1, api.ErrArg}, {1, 17, api.ErrArg}, {-1, 5, api.ErrArg}, {5, -1, api.ErrArg}, {0, 0, api.ErrArg}, {17, 17, api.ErrArg},
		{math.MinInt, 1, api.ErrArg}, {math.MaxInt, 1, api.ErrArg}, {1, math.MinInt, api.ErrArg}, {1, math.MaxInt, api.ErrArg},
	} {
		got, err := New(c.tenants, c.strategies)
		if err != c.want || (got != nil) != (c.want == api.OK) {
			t.Errorf("New(%d, %d): error %d", c.tenants, c.strategies, int(err))
		}
	}
}

// P2101: nobody has a query, and there are just so many tenants.
func TestNewIsEmpty(t *testing.T) {
	for tenants := 1; tenants <= api.MaxTenants; tenants++ {
		s := made(t, tenants, 2)
		now(t, s, 0)
		for tenant := range tenants {
			lines(t, s, make([][]int, tenants)...)
			removes(t, s, tenant, 0, api.ErrGone)
		}
		ticks(t, s, nil, nil)
		adds(t, s, tenants, 0, 0, api.ErrArg)
		removes(t, s, tenants, 0, api.ErrArg)
		var runs []Run
		for tenant := range tenants {
			adds(t, s, tenant, 5, 0, api.OK)
			runs = append(runs, Run{tenant, 5, 0})
		}
		ticks(t, s, runs, nil)
	}
}

// P2101: each strategy has its turn, as many as there are.
func TestStrategies(t *testing.T) {
	for strategies := 1; strategies <= 16; strategies++ {
		s := made(t, 1, strategies)
		adds(t, s, 0, 3, 0, api.OK)
		for turn := range 50 {
			ticks(t, s, []Run{{0, 3, turn % strategies}}, nil)
		}
	}
}

// P2101: Add's errors, of which the first one that applies is told; nothing changes.
func TestAddWrong(t *testing.T) {
	none := (*Sched)(nil)
	s := full(t, 2, 64)
	for _, tenant := range []int{-1, 2, 3, math.MinInt, math.MaxInt} {
		adds(t, none, tenant, 0, -1, api.ErrNil)
		adds(t, s, tenant, 0, 0, api.ErrArg)
		adds(t, s, tenant, 0, 5, api.ErrArg)
		adds(t, s, tenant, 0, -1, api.ErrArg)
	}
	for _, deadline := range []int{-1, -2, math.MinInt} {
		adds(t, none, 0, 0, deadline, api.ErrNil)
		adds(t, s, 0, 0, deadline, api.ErrArg)
		adds(t, s, 1, 0, deadline, api.ErrArg)
		adds(t, s, 1, 64, deadline, api.ErrArg)
	}
	adds(t, none, 0, 0, 0, api.ErrNil)
	for id := range 64 {
		adds(t, s, 1, id, 0, api.ErrTwice)
		adds(t, s, 1, id, 1, api.ErrTwice)
	}
	for _, id := range []int{64, -1, math.MinInt, math.MaxInt} {
		adds(t, s, 1, id, 0, api.ErrFull)
		adds(t, s, 1, id, 1, api.ErrFull)
	}
	lines(t, s, nil, upTo(64))
	ticks(t, s, []Run{{1, 0, 0}}, nil)
	lines(t, s, nil, append(upTo(64)[1:], 0))
}

// upTo: the numbers below n.
func upTo(n int) []int {
	var list []int
	for i := range n {
		list = append(list, i)
	}
	return list
}

// P2101: numbers are any, and each tenant has its own; all are behind those that were there.
func TestAddAny(t *testing.T) {
	s := made(t, 3, 2)
	ids := []int{0, -1, math.MaxInt, 7, math.MinInt, 1, 1 << 40, -7}
	for tenant := range 3 {
		for i, id := range ids {
			lines(t, s, ids[:max(i, len(s.Queries(0)))])
			adds(t, s, tenant, id, 0, api.OK)
			adds(t, s, tenant, id, 0, api.ErrTwice)
		}
	}
	lines(t, s, ids, ids, ids)
	for _, id := range ids {
		ticks(t, s, []Run{{0, id, 0}, {1, id, 0}, {2, id, 0}}, nil)
	}
	lines(t, s, ids, ids, ids)
	adds(t, s, 1, 99, 0, api.OK)
	lines(t, s, ids, append(slices.Clone(ids), 99), ids)
}

// P2101: one that comes in between waits for all that are there, also for the one that has just run.
func TestAddBehind(t *testing.T) {
	s := full(t, 1, 3)
	ticks(t, s, []Run{{0, 0, 0}}, nil)
	adds(t, s, 0, 9, 0, api.OK)
	lines(t, s, []int{1, 2, 0, 9})
	for _, run := range []Run{{0, 1, 0}, {0, 2, 0}, {0, 0, 1}, {0, 9, 0}, {0, 1, 1}, {0, 2, 1}, {0, 0, 0}, {0, 9, 1}} {
		ticks(t, s, []Run{run}, nil)
	}
}

// P2101: 64 in a line are not too many, whoever else has as many; there is room again for each that goes.
func TestFull(t *testing.T) {
	s := made(t, 3, 1)
	for tenant := range 3 {
		for id := range 64 {
			adds(t, s, tenant, id, 2*(id%2), api.OK)
		}
		adds(t, s, tenant, 64, 0, api.ErrFull)
	}
	removes(t, s, 1, 30, api.OK)
	adds(t, s, 0, 64, 0, api.ErrFull)
	adds(t, s, 1, 64, 0, api.OK)
	adds(t, s, 1, 30, 0, api.ErrFull)
	s.Tick()
	adds(t, s, 1, 30, 0, api.ErrFull)
	s.Tick()
	for id := range 32 {
		adds(t, s, 2, 100+id, 0, api.OK)
	}
	adds(t, s, 2, 1, 0, api.ErrFull)
}

// P2101: Remove's errors; nothing changes.
func TestRemoveWrong(t *testing.T) {
	none := (*Sched)(nil)
	s := full(t, 2, 3)
	for _, tenant := range []int{-1, 2, 3, math.MinInt, math.MaxInt} {
		removes(t, none, tenant, 0, api.ErrNil)
		removes(t, s, tenant, 0, api.ErrArg)
		removes(t, s, tenant, 9, api.ErrArg)
	}
	removes(t, none, 0, 0, api.ErrNil)
	for _, id := range []int{3, -1, math.MinInt, math.MaxInt} {
		removes(t, s, 1, id, api.ErrGone)
	}
	removes(t, s, 0, 0, api.ErrGone)
	lines(t, s, nil, []int{0, 1, 2})
}

// P2101: what is removed is gone, wherever it stood; the others go on in their order and with their turns.
func TestRemove(t *testing.T) {
	for id := range 4 {
		s := full(t, 2, 4)
		for range 6 {
			s.Tick()
		}
		removes(t, s, 1, id, api.OK)
		removes(t, s, 1, id, api.ErrGone)
		var left []Run
		for _, run := range []Run{{1, 2, 1}, {1, 3, 1}, {1, 0, 0}, {1, 1, 0}, {1, 2, 0}, {1, 3, 0}, {1, 0, 1}, {1, 1, 1}} {
			if run.Id != id {
				left = append(left, run)
			}
		}
		lines(t, s, nil, []int{left[0].Id, left[1].Id, left[2].Id})
		for _, run := range left {
			ticks(t, s, []Run{run}, nil)
		}
	}
}

// P2101: the same number's next query begins with turn 0, behind all others, and without the old deadline.
func TestAddAgain(t *testing.T) {
	s := made(t, 1, 3)
	adds(t, s, 0, 7, 9, api.OK)
	adds(t, s, 0, 8, 0, api.OK)
	for range 4 {
		s.Tick()
	}
	removes(t, s, 0, 7, api.OK)
	adds(t, s, 0, 7, 0, api.OK)
	lines(t, s, []int{8, 7})
	for range 4 {
		ticks(t, s, []Run{{0, 8, 2}}, nil)
		ticks(t, s, []Run{{0, 7, 0}}, nil)
		ticks(t, s, []Run{{0, 8, 0}}, nil)
		ticks(t, s, []Run{{0, 7, 1}}, nil)
		ticks(t, s, []Run{{0, 8, 1}}, nil)
		ticks(t, s, []Run{{0, 7, 2}}, nil)
	}
}

// P2103: the looks of no such tenant, and of nil.
func TestLooks(t *testing.T) {
	none := (*Sched)(nil)
	s := full(t, 2, 3)
	for _, tenant := range []int{-1, 2, 3, math.MinInt, math.MaxInt} {
		if got := s.Queries(tenant); len(got) > 0 {
			t.Errorf("Queries(%d): %v", tenant, got)
		}
	}
	for tenant := range 2 {
		if got := none.Queries(tenant); len(got) > 0 {
			t.Errorf("Queries(%d) of nil: %v", tenant, got)
		}
	}
	now(t, none, 0)
	for tick := range 100 {
		now(t, s, tick)
		lines(t, s, nil, []int{tick % 3, (tick + 1) % 3, (tick + 2) % 3})
		s.Tick()
	}
}
