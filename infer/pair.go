package infer

import (
	"cmp"
	"slices"

	"assize/api"
	"assize/lits"
	"assize/multi"
	"assize/subst"
	"assize/term"
)

// pair: two clauses, of which the first rewrites the second one, and what was found of them.
type pair struct {
	found
	from, into api.Clause
	by         int // so much more into's variables are where they must be apart from from's
	selected   int // in into
}

func paired(o multi.Order, from, into api.Clause, selected int) *pair {
	p := &pair{found: found{order: o}, from: from, into: into, selected: selected}
	if vars := lits.Vars(from); len(vars) > 0 {
		p.by = vars[len(vars)-1] + 1
	}
	return p
}

// rewrite: the step by from's face, into that part at the place of into's face, if there is one.
// Whether both may fit hangs on no variable's number: so only what may is set apart.
func (p *pair) rewrite(one, two face, place []int, part api.Term) {
	var s, sa, sb []api.Bind
	var a, b api.Clause
	follows := all(
		func() bool { return mayFit(one.side, part) },
		func() (ok bool) { part, ok = p.apart(part); return ok },
		func() (ok bool) { s, ok = p.unifier(one.side, part); return ok },
		func() (ok bool) { sa = p.ofFrom(s); a, ok = p.instance(sa, p.from); return ok },
		func() (ok bool) { sb = p.ofInto(s); b, ok = p.instance(sb, p.into); return ok },
		func() bool { return p.tops(one.in(a)) },
		func() bool { return p.tops(two.in(b)) },
		func() bool { return p.order.Strict(a, one.at) },
		func() bool { return p.selected >= 0 || p.leads(two, b) },
	)
	if follows {
		step := api.Step{Rule: api.RSup, LitA: one.at, FlipA: one.flip, LitB: two.at, FlipB: two.flip, Pos: slices.Clone(place), SA: sa, SB: sb}
		made := rewritten(two.in(b), place, one.in(a).other)
		p.add(step, b[:two.at], api.Clause{made}, b[two.at+1:], a[:one.at], a[one.at+1:])
	}
}

// apart: the part of into, with variables that from does not have.
func (p *pair) apart(part api.Term) (api.Term, bool) {
	shifted, errno := subst.Shift(part, p.by)
	return shifted, p.told(errno)
}

// ofFrom: what s does to from, whose variables are all below those of into.
func (p *pair) ofFrom(s []api.Bind) []api.Bind {
	var binds []api.Bind
	for _, bind := range s {
		if bind.Var < p.by {
			binds = append(binds, bind)
		}
	}
	return binds
}

// ofInto: what setting into apart does to its variables, and then s.
func (p *pair) ofInto(s []api.Bind) []api.Bind {
	var binds []api.Bind
	for _, number := range lits.Vars(p.into) {
		if t := image(s, number+p.by); !isVar(t) || t.Var != number {
			binds = append(binds, api.Bind{Var: number, T: t})
		}
	}
	return binds
}

// image: what stands for the variable, in the memory of s; the variable itself, if nothing does.
func image(s []api.Bind, number int) api.Term {
	at, bound := slices.BinarySearchFunc(s, number, func(b api.Bind, number int) int { return cmp.Compare(b.Var, number) })
	if bound {
		return s[at].T
	}
	return api.Term{Var: number}
}

// leads: may the face's literal be rewritten, as it stands beside the others of into's instance?
func (p *pair) leads(f face, c api.Clause) bool {
	if f.neg {
		return p.order.Maximal(c, f.at)
	}
	return p.order.Strict(c, f.at)
}

// rewritten: the face's literal, with t at the place of its side.
func rewritten(f face, place []int, t api.Term) api.Lit {
	side, _ := term.Put(f.side, place, t)
	if f.flip {
		return api.Lit{Neg: f.neg, L: f.other, R: side}
	}
	return api.Lit{Neg: f.neg, L: side, R: f.other}
}
