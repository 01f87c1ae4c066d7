package simplify

import (
	"iter"
	"slices"

	"assize/api"
	"assize/disc"
	"assize/kbo"
	"assize/lits"
	"assize/multi"
	"assize/subst"
	"assize/term"
	"assize/unify"
)

// A tree of the units pays where there are more of them than manyUnits, and more parts are asked for than manyParts: else it takes longer to make or to ask it than to try each unit.
const (
	manyUnits = 30
	manyParts = 100
)

// rewriter: by which order, and by which units.
type rewriter struct {
	order   multi.Order
	matches matcher
}

// matcher: of a part the sides of units that match it, unit by unit, side 0 ahead of 1.
type matcher func(part api.Term) iter.Seq[match]

// match: a side of a unit, and what stands for its variables.
type match struct {
	unit  Unit
	flip  bool
	binds []api.Bind
}

// spot: a part of a clause that is no variable. Its place is good until the next spot comes: all stand in one list.
type spot struct {
	lit   int
	flip  bool
	place []int
	part  api.Term
}

// steps: of the clause, and then of what each of them makes of it; and was something lost?
func (r rewriter) steps(c api.Clause) ([]api.Step, bool) {
	var steps []api.Step
	for step, found := r.next(c); found; step, found = r.next(c) {
		if len(steps) == mostSteps || lits.Right(step.C) != api.OK {
			return steps, true
		}
		step.C = lits.Normal(step.C)
		steps = append(steps, step)
		c = step.C
	}
	return steps, false
}

// next: the first step of the clause, if there is one; what would come stands in it as it is, right or not, and not normal yet.
func (r rewriter) next(c api.Clause) (api.Step, bool) {
	for s := range spots(c) {
		for m := range r.matches(s.part) {
			to, errno := subst.Apply(m.binds, sideOf(m.unit.C[0], !m.flip))
			if errno != api.OK || r.order.Terms(s.part, to) != kbo.Greater {
				continue
			}
			// asked last, since it hangs on no unit, and few whole sides come so far
			if !r.free(s, c[s.lit]) {
				break
			}
			return api.Step{
				Rule: api.RDemod, B: m.unit.Id, LitA: s.lit, FlipA: s.flip, FlipB: m.flip,
				Pos: slices.Clone(s.place), SB: m.binds, C: rewritten(c, s, to),
			}, true
		}
	}
	return api.Step{}, false
}

// free: can the spot of that literal be rewritten? Of an equation only the lesser side is as a whole: what it rewrites by itself stays its own.
func (r rewriter) free(s spot, l api.Lit) bool {
	return len(s.place) > 0 || l.Neg || r.order.Terms(sideOf(l, s.flip), sideOf(l, !s.flip)) == kbo.Less
}

// spots: of all literals, side 0 ahead of 1, in the order of term.Places.
func spots(c api.Clause) iter.Seq[spot] {
	return func(yield func(spot) bool) {
		var walk func(s spot) bool
		walk = func(s spot) bool {
			if isVar(s.part) {
				return true
			}
			if !yield(s) {
				return false
			}
			for i, arg := range s.part.Args {
				if !walk(spot{s.lit, s.flip, append(s.place, i), arg}) {
					return false
				}
			}
			return true
		}
		for i, l := range c {
			if !walk(spot{lit: i, part: l.L}) || !walk(spot{lit: i, flip: true, part: l.R}) {
				return
			}
		}
	}
}

// rewritten: the clause with t at the spot, on the clause's own memory elsewhere.
func rewritten(c api.Clause, s spot, t api.Term) api.Clause {
	made := slices.Clone(c)
	side, _ := term.Put(sideOf(c[s.lit], s.flip), s.place, t)
	if s.flip {
		made[s.lit].R = side
	} else {
		made[s.lit].L = side
	}
	return made
}

// matcherOf: tries the units one by one, until so many parts were asked for that a tree would have paid.
func matcherOf(units []Unit) matcher {
	asked, ask := 0, oneByOne(units)
	return func(part api.Term) iter.Seq[match] {
		if asked++; asked == manyParts && len(units) > manyUnits {
			ask = byTree(units)
		}
		return ask(part)
	}
}

// oneByOne: tries each side of each unit. Whether a unit is one is asked only of those that resemble the part.
func oneByOne(units []Unit) matcher {
	return func(part api.Term) iter.Seq[match] {
		return func(yield func(match) bool) {
			for _, u := range units {
				for _, flip := range [...]bool{false, true} {
					if !mayRewrite(u.C, flip, part) || !ready(u.C) {
						continue
					}
					binds, ok, _ := unify.Match(sideOf(u.C[0], flip), part)
					if ok && !yield(match{u, flip, binds}) {
						return
					}
				}
			}
		}
	}
}

// mayRewrite: has the clause the shape of a unit, and a side there that is not $true and resembles the part?
func mayRewrite(c api.Clause, flip bool, part api.Term) bool {
	if !shaped(c) {
		return false
	}
	side := sideOf(c[0], flip)
	return resembles(side, part) && !term.Same(side, lits.True())
}

// shaped: is it one literal that is not Neg?
func shaped(c api.Clause) bool { return len(c) == 1 && !c[0].Neg }

// byTree: asks a tree in which the sides 0 and 1 of the unit i stand by the numbers 2i and 2i + 1.
func byTree(units []Unit) matcher {
	tree := disc.New()
	for i, u := range units {
		if !shaped(u.C) || !ready(u.C) {
			continue
		}
		tree.Insert(2*i, u.C[0].L)
		tree.Insert(2*i+1, u.C[0].R)
	}
	return func(part api.Term) iter.Seq[match] {
		return func(yield func(match) bool) {
			for _, hit := range tree.Generals(part) {
				u, flip := units[hit.Id/2], hit.Id%2 == 1
				// the tree knows nothing of truths
				if mayRewrite(u.C, flip, part) && !yield(match{u, flip, hit.Binds}) {
					return
				}
			}
		}
	}
}
