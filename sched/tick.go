package sched

import "slices"

// Tick: the clock goes on; what is late then is gone, and of each tenant that still has queries one runs.
func (s *Sched) Tick() (runs, late []Run) {
	if s == nil {
		return nil, nil
	}
	s.now = min(s.now+1, lastTick)
	late = s.drop()
	return s.run(), late
}

// drop: the late queries leave their lines. No line's queries hang on another's, so all lines can be rid of them ahead of any run.
func (s *Sched) drop() []Run {
	isLate := func(q query) bool { return q.deadline > 0 && q.deadline <= s.now }
	var late []Run
	for tenant, line := range s.lines {
		for _, q := range line {
			if isLate(q) {
				late = append(late, Run{Tenant: tenant, Id: q.id})
			}
		}
		s.lines[tenant] = slices.DeleteFunc(line, isLate)
	}
	return late
}

// run: the first query of each line has its turn, and waits for all others of its line then.
func (s *Sched) run() []Run {
	var runs []Run
	for tenant, line := range s.lines {
		if len(line) == 0 {
			continue
		}
		first := &line[0]
		runs = append(runs, Run{Tenant: tenant, Id: first.id, Strategy: first.strategy})
		first.strategy = (first.strategy + 1) % s.strategies
		turn(line)
	}
	return runs
}

// turn: the list's first thing goes behind all others.
func turn[T any](list []T) {
	first := list[0]
	copy(list, list[1:])
	list[len(list)-1] = first
}
