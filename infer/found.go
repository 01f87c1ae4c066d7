package infer

import (
	"slices"

	"assize/api"
	"assize/finger"
	"assize/kbo"
	"assize/lits"
	"assize/multi"
	"assize/unify"
)

// found: what follows, as far as it was looked for.
type found struct {
	order multi.Order
	steps []api.Step
	lost  bool
}

// all: do all conditions hold? They are asked in order, and none behind the first that does not.
func all(conditions ...func() bool) bool {
	for _, holds := range conditions {
		if !holds() {
			return false
		}
	}
	return true
}

// told: was there no error? What has one is lost.
func (f *found) told(errno api.Errno) bool {
	f.lost = f.lost || errno != api.OK
	return errno == api.OK
}

// mayFit: does nothing that is seen at once keep both from fitting? Fingerprints spare most terms the search for a unifier.
func mayFit(a, b api.Term) bool {
	if isVar(a) && truth(b) || truth(a) && isVar(b) {
		return false
	}
	return finger.Unifies(finger.Of(a), finger.Of(b))
}

// unifier: of two terms that may fit.
func (f *found) unifier(a, b api.Term) ([]api.Bind, bool) {
	s, fit, errno := unify.Unify(a, b)
	return s, f.told(errno) && fit
}

// instance: the clause with the substitution, in new memory.
func (f *found) instance(s []api.Bind, c api.Clause) (api.Clause, bool) {
	made, errno := lits.Apply(s, c)
	return made, f.told(errno)
}

// tops: is the face's side neither less than the other one, nor the same?
func (f *found) tops(g face) bool {
	came := f.order.Terms(g.side, g.other)
	return came != kbo.Less && came != kbo.Equal
}

// add: the step, with the clause that has these parts, if that one may be.
func (f *found) add(step api.Step, parts ...api.Clause) {
	whole := slices.Concat(parts...)
	if f.told(lits.Right(whole)) {
		step.C = lits.Normal(whole)
		f.steps = append(f.steps, step)
	}
}

// resolve: the step by the literal of that face, if there is one.
func (f *found) resolve(c api.Clause, one face, selected bool) {
	var s []api.Bind
	var made api.Clause
	follows := all(
		func() bool { return mayFit(one.side, one.other) },
		func() (ok bool) { s, ok = f.unifier(one.side, one.other); return ok },
		func() (ok bool) { made, ok = f.instance(s, c); return ok },
		func() bool { return selected || f.order.Maximal(made, one.at) },
	)
	if follows {
		step := api.Step{Rule: api.REqRes, LitA: one.at, SA: s}
		f.add(step, made[:one.at], made[one.at+1:])
	}
}

// factor: the step by the two faces, if there is one.
func (f *found) factor(c api.Clause, one, two face) {
	var s []api.Bind
	var made api.Clause
	follows := all(
		func() bool { return mayFit(one.side, two.side) },
		func() (ok bool) { s, ok = f.unifier(one.side, two.side); return ok },
		func() (ok bool) { made, ok = f.instance(s, c); return ok },
		func() bool { return f.tops(one.in(made)) },
		func() bool { return f.order.Maximal(made, one.at) },
	)
	if follows {
		step := api.Step{Rule: api.REqFact, LitA: one.at, FlipA: one.flip, LitB: two.at, FlipB: two.flip, SA: s}
		apart := api.Lit{Neg: true, L: one.in(made).other, R: two.in(made).other}
		f.add(step, made[:one.at], made[one.at+1:], api.Clause{apart})
	}
}
