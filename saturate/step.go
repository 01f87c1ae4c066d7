package saturate

import (
	"slices"

	"assize/api"
	"assize/infer"
	"assize/lits"
	"assize/multi"
	"assize/simplify"
)

// stepped: makes one step, and tells what the search is then. Whatever leaves the step from within, the search can tell nothing any more.
func (e *Engine) stepped() (status int) {
	defer func() {
		if recover() != nil {
			status = Out
		}
	}()
	switch {
	case len(e.queue) > 0:
		return e.settle(e.add(e.next()), e.wait)
	case len(e.passive) > 0:
		return e.settle(e.pick(), e.activate)
	case e.lost:
		return Out
	}
	return Saturated
}

// settle: makes the record's clause small, and hands what comes of it on, if it goes on.
func (e *Engine) settle(number int, on func(number int)) int {
	number = e.small(number)
	if len(e.clause(number)) == 0 {
		return Proved
	}
	if !e.redundant(number) {
		on(number)
	}
	return Running
}

// small: the last of the records that make the clause smaller, as long as something does.
func (e *Engine) small(number int) int {
	units := e.units()
	for {
		number = e.cleaned(number)
		steps, lost := simplify.Rewrite(e.order, units, e.clause(number))
		e.lost = e.lost || lost
		// where nothing was rewritten the clause is clean still
		if len(steps) == 0 {
			return number
		}
		for _, s := range steps {
			s.A = number
			number = e.add(s)
		}
	}
}

// cleaned: the record of the clean clause, which may be this one.
func (e *Engine) cleaned(number int) int {
	s, changed := simplify.Clean(e.clause(number))
	if !changed {
		return number
	}
	s.A = number
	return e.add(s)
}

// units: the active clauses that rewrite others, in order.
func (e *Engine) units() []simplify.Unit {
	var list []simplify.Unit
	for _, number := range e.active {
		if c := e.clause(number); len(c) == 1 && !c[0].Neg {
			list = append(list, simplify.Unit{Id: number, C: c})
		}
	}
	return list
}

// redundant: does the clause say nothing that is not said already?
func (e *Engine) redundant(number int) bool {
	c := e.clause(number)
	return lits.Tautology(c) || slices.ContainsFunc(e.active, func(other int) bool { return simplify.Subsumes(e.clause(other), c) })
}

// next: the first of the queue, which is there no more.
func (e *Engine) next() api.Step {
	s := e.queue[0]
	e.queue = e.queue[1:]
	return s
}

// wait: the record's clause is passive.
func (e *Engine) wait(number int) { e.passive = append(e.passive, number) }

// pick: a passive record, which is that no more: as many times as Ratio says the lightest, then once the oldest.
func (e *Engine) pick() int {
	at := 0
	if e.picked%(e.strategy.Ratio+1) < e.strategy.Ratio {
		at = e.lightest()
	}
	e.picked++
	number := e.passive[at]
	e.passive = slices.Delete(e.passive, at, at+1)
	return number
}

// lightest: the place among the passive ones of the first that no other one is lighter than.
func (e *Engine) lightest() int {
	at := 0
	for i, number := range e.passive {
		if e.size(number) < e.size(e.passive[at]) {
			at = i
		}
	}
	return at
}

// activate: the record's clause is active, in the place of those that say no more, and all that follows of it is in the queue.
func (e *Engine) activate(number int) {
	c := e.clause(number)
	e.active = slices.DeleteFunc(e.active, func(other int) bool { return simplify.Subsumes(c, e.clause(other)) })
	e.active = append(e.active, number)
	e.ahead = e.used // the queue is empty: else nothing had been picked
	for _, other := range e.active {
		e.cross(number, other)
		if other != number {
			e.cross(other, number)
		}
	}
	e.alone(number, infer.Resolve)
	e.alone(number, infer.Factor)
}

// cross: what follows where the first record's clause rewrites the second one's.
func (e *Engine) cross(a, b int) {
	if e.crowded() {
		return
	}
	steps, lost := infer.Super(e.order, e.strategy.Sel, e.clause(a), e.clause(b))
	e.follow(a, b, steps, lost)
}

// alone: what follows by the rule of the record's clause itself.
func (e *Engine) alone(number int, rule func(o multi.Order, sel bool, c api.Clause) ([]api.Step, bool)) {
	if e.crowded() {
		return
	}
	steps, lost := rule(e.order, e.strategy.Sel, e.clause(number))
	e.follow(number, 0, steps, lost)
}

// follow: the steps come into the queue, with their parents' numbers.
func (e *Engine) follow(a, b int, steps []api.Step, lost bool) {
	e.lost = e.lost || lost
	for _, s := range steps {
		s.A, s.B = a, b
		e.put(s)
	}
}

// put: the step comes into the queue, if its turn can ever come.
func (e *Engine) put(s api.Step) {
	if e.crowded() {
		return
	}
	e.ahead = e.ahead.and(lits.Size(s.C))
	e.queue = append(e.queue, s)
}

// crowded: does the queue end with a step that the limits will not allow, whatever comes of those ahead of it?
// What would come behind it never has its turn, and what is lost there does not count: the search ends ahead of it, Proved or Out.
func (e *Engine) crowded() bool { return !e.ahead.fits(e.limit) }
