package check

import (
	"slices"

	"assize/api"
	"assize/lits"
	"assize/term"
)

// said: what the step says, by its rule, of what stands ahead of it. Whatever leaves the rule from within, the step says nothing.
func said(lists listing, proof []api.Step, i int) (c api.Clause, errno api.Errno) {
	defer func() {
		if recover() != nil {
			c, errno = nil, api.ErrProof
		}
	}()
	s := saying{Step: proof[i], lists: lists, ahead: proof[:i]}
	return lits.Normal(usable(s.rule()())), api.OK
}

// misfit: something of a step that does not fit.
type misfit struct{}

// need: leaves the step by a panic, from however deep, if that does not hold.
func need(holds bool) {
	if !holds {
		panic(misfit{})
	}
}

// saying: a step, and what it may speak of: what is given, and the steps ahead of it.
type saying struct {
	api.Step
	lists listing
	ahead []api.Step
}

// rule: what tells of the step what follows by its rule.
func (s saying) rule() func() api.Clause {
	need(untrue(s.SA) && untrue(s.SB))
	rules := [...]func() api.Clause{
		api.RInput:  s.input,
		api.RSup:    s.superposed,
		api.REqRes:  s.resolved,
		api.REqFact: s.factored,
		api.RDemod:  s.rewritten,
		api.RClean:  s.cleaned,
	}
	need(api.RInput <= s.Rule && s.Rule < len(rules))
	return rules[s.Rule]
}

// input: the given clause.
func (s saying) input() api.Clause {
	l := s.lists(s.Name)
	need(0 <= s.Index && s.Index < len(l))
	return l[s.Index]
}

// superposed: the second parent, rewritten by an equation of the first one, and behind it what else that one has.
func (s saying) superposed() api.Clause {
	from, into := s.instance(s.A, s.SA), s.instance(s.B, s.SB)
	e := equation(from, s.LitA, s.FlipA)
	return slices.Concat(replaced(into, spot{s.LitB, s.FlipB, s.Pos}, e), without(from, s.LitA))
}

// resolved: the parent without a literal that can't hold.
func (s saying) resolved() api.Clause {
	c := s.instance(s.A, s.SA)
	l := literal(c, s.LitA)
	need(l.Neg && term.Same(l.L, l.R))
	return without(c, s.LitA)
}

// factored: the parent without the one equation: where it holds, either the other one does too, or their other sides differ.
func (s saying) factored() api.Clause {
	c := s.instance(s.A, s.SA)
	one, two := equation(c, s.LitA, s.FlipA), equation(c, s.LitB, s.FlipB)
	need(s.LitA != s.LitB && term.Same(one.side, two.side))
	return append(without(c, s.LitA), api.Lit{Neg: true, L: one.other, R: two.other})
}

// rewritten: the first parent, rewritten by the second one, which is one equation.
func (s saying) rewritten() api.Clause {
	c, unit := s.instance(s.A, s.SA), s.instance(s.B, s.SB)
	need(len(unit) == 1)
	return replaced(c, spot{s.LitA, s.FlipA, s.Pos}, equation(unit, 0, s.FlipB))
}

// cleaned: the parent without what stands twice, and without what never holds.
func (s saying) cleaned() api.Clause { return lits.Clean(s.parent(s.A)) }

// instance: of a parent's clause, in new memory.
func (s saying) instance(parent int, by []api.Bind) api.Clause {
	c, errno := lits.Apply(by, s.parent(parent))
	need(errno == api.OK)
	return c
}

// parent: its clause, as it tells it.
func (s saying) parent(number int) api.Clause {
	need(0 <= number && number < len(s.ahead))
	return usable(s.ahead[number].C)
}

// face: an equation, looked at from one of its sides.
type face struct{ side, other api.Term }

func faceOf(l api.Lit, flip bool) face {
	if flip {
		return face{l.R, l.L}
	}
	return face{l.L, l.R}
}

// equation: the literal, which must not be Neg, from that side.
func equation(c api.Clause, at int, flip bool) face {
	l := literal(c, at)
	need(!l.Neg)
	return faceOf(l, flip)
}

func literal(c api.Clause, at int) api.Lit {
	need(0 <= at && at < len(c))
	return c[at]
}

// without: all literals but that one, in a list of their own.
func without(c api.Clause, at int) api.Clause { return slices.Concat(c[:at], c[at+1:]) }

// spot: a place of a side of a literal.
type spot struct {
	at    int
	flip  bool
	place []int
}

// replaced: the clause with the equation's other side at the spot, where the side must stand.
func replaced(c api.Clause, here spot, e face) api.Clause {
	whole := faceOf(literal(c, here.at), here.flip)
	part, errno := term.At(whole.side, here.place)
	need(errno == api.OK && term.Same(part, e.side))
	put, _ := term.Put(whole.side, here.place, e.other)
	made := slices.Clone(c)
	if here.flip {
		made[here.at].R = put
	} else {
		made[here.at].L = put
	}
	return made
}
