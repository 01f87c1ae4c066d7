package infer

import (
	"slices"
	"strings"
	"testing"

	"assize/api"
	"assize/kbo"
	"assize/lits"
	"assize/multi"
	"assize/subst"
	"assize/term"
	"assize/unify"
)

// The chapter's words, one by one, with no eye on time: no fingerprint, all instances of whole clauses, all places.

func modelTruth(t api.Term) bool {
	return t.Fn == "$true" || strings.HasPrefix(t.Fn, "@")
}

func modelSide(l api.Lit, flip bool) api.Term {
	if flip {
		return l.R
	}
	return l.L
}

// modelFit: is there a unifier; which one; or is it lost?
func modelFit(a, b api.Term) (s []api.Bind, fit, lost bool) {
	s, fit, errno := unify.Unify(a, b)
	if a.Fn == "" && modelTruth(b) || b.Fn == "" && modelTruth(a) {
		return nil, false, false
	}
	return s, fit, errno != api.OK
}

func modelTops(o multi.Order, l api.Lit, flip bool) bool {
	came := o.Terms(modelSide(l, flip), modelSide(l, !flip))
	return came == kbo.Greater || came == kbo.None
}

func without(c api.Clause, i int) api.Clause {
	return slices.Delete(slices.Clone(c), i, i+1)
}

// model: what was found so far.
type model struct {
	steps []api.Step
	lost  bool
}

func (m *model) add(s api.Step) {
	if lits.Right(s.C) != api.OK {
		m.lost = true
		return
	}
	s.C = lits.Normal(s.C)
	m.steps = append(m.steps, s)
}

func (m *model) instance(s []api.Bind, c api.Clause) (api.Clause, bool) {
	made, errno := lits.Apply(s, c)
	m.lost = m.lost || errno != api.OK
	return made, errno == api.OK
}

func modelSuper(o multi.Order, sel bool, from, into api.Clause) ([]api.Step, bool) {
	m := &model{}
	by := 0
	for _, number := range lits.Vars(from) {
		by = max(by, number+1)
	}
	apart, _ := lits.Shift(into, by)
	for i := range from {
		for _, flipA := range []bool{false, true} {
			if side := modelSide(from[i], flipA); from[i].Neg || side.Fn == "$true" && len(side.Args) == 0 {
				continue
			}
			for k := range into {
				for _, flipB := range []bool{false, true} {
					for _, place := range term.Places(modelSide(into[k], flipB)) {
						m.super(o, sel, from, apart, api.Step{Rule: api.RSup, LitA: i, FlipA: flipA, LitB: k, FlipB: flipB, Pos: place}, by)
					}
				}
			}
		}
	}
	return m.steps, m.lost
}

func (m *model) super(o multi.Order, sel bool, from, apart api.Clause, step api.Step, by int) {
	i, k := step.LitA, step.LitB
	part, _ := term.At(modelSide(apart[k], step.FlipB), step.Pos)
	chosen := Selected(sel, apart)
	if part.Fn == "" || Selected(sel, from) >= 0 || chosen >= 0 && chosen != k {
		return
	}
	s, fit, lost := modelFit(modelSide(from[i], step.FlipA), part)
	m.lost = m.lost || lost
	if !fit {
		return
	}
	a, okA := m.instance(s, from)
	b, okB := m.instance(s, apart)
	if !okA || !okB || !modelTops(o, a[i], step.FlipA) || !modelTops(o, b[k], step.FlipB) || !o.Strict(a, i) {
		return
	}
	if chosen < 0 && (b[k].Neg && !o.Maximal(b, k) || !b[k].Neg && !o.Strict(b, k)) {
		return
	}
	for _, number := range lits.Vars(from) {
		if t, _ := subst.Apply(s, v(number)); text(t) != text(v(number)) {
			step.SA = append(step.SA, api.Bind{Var: number, T: t})
		}
	}
	for _, number := range lits.Vars(apart) {
		if t, _ := subst.Apply(s, v(number)); text(t) != text(v(number-by)) {
			step.SB = append(step.SB, api.Bind{Var: number - by, T: t})
		}
	}
	if put, _ := term.Put(modelSide(b[k], step.FlipB), step.Pos, modelSide(a[i], !step.FlipA)); step.FlipB {
		b[k].R = put
	} else {
		b[k].L = put
	}
	step.C = slices.Concat(b, without(a, i))
	m.add(step)
}

func modelResolve(o multi.Order, sel bool, c api.Clause) ([]api.Step, bool) {
	m := &model{}
	chosen := Selected(sel, c)
	for i, l := range c {
		if !l.Neg || chosen >= 0 && chosen != i {
			continue
		}
		s, fit, lost := modelFit(l.L, l.R)
		m.lost = m.lost || lost
		if !fit {
			continue
		}
		if made, ok := m.instance(s, c); ok && (chosen == i || o.Maximal(made, i)) {
			m.add(api.Step{Rule: api.REqRes, LitA: i, SA: s, C: without(made, i)})
		}
	}
	return m.steps, m.lost
}

func modelFactor(o multi.Order, sel bool, c api.Clause) ([]api.Step, bool) {
	m := &model{}
	for i := range c {
		for k := range c {
			for _, flips := range [][2]bool{{false, false}, {false, true}, {true, false}, {true, true}} {
				if Selected(sel, c) < 0 && i != k && !c[i].Neg && !c[k].Neg {
					m.factor(o, c, i, k, flips)
				}
			}
		}
	}
	return m.steps, m.lost
}

func (m *model) factor(o multi.Order, c api.Clause, i, k int, flips [2]bool) {
	one, two := modelSide(c[i], flips[0]), modelSide(c[k], flips[1])
	if text(one) == "$true" || text(two) == "$true" {
		return
	}
	s, fit, lost := modelFit(one, two)
	m.lost = m.lost || lost
	if !fit {
		return
	}
	if made, ok := m.instance(s, c); ok && modelTops(o, made[i], flips[0]) && o.Maximal(made, i) {
		differ := not(modelSide(made[i], !flips[0]), modelSide(made[k], !flips[1]))
		m.add(api.Step{Rule: api.REqFact, LitA: i, FlipA: flips[0], LitB: k, FlipB: flips[1], SA: s, C: append(without(made, i), differ)})
	}
}

// agree: both told the same.
func agree(t *testing.T, what string, l, want []api.Step, lost, wantLost bool) {
	t.Helper()
	if saySteps(l) != saySteps(want) || lost != wantLost {
		t.Fatalf("%s:\n%s, %v, not\n%s, %v", what, saySteps(l), lost, saySteps(want), wantLost)
	}
}

// P1601, P1602, P1603: of clauses by chance what the words say, by both orders, with and without selection.
func TestModel(t *testing.T) {
	m := newMaker(161)
	counts := map[string]int{}
	for range 12000 {
		o, sel := m.order(), m.Intn(2) == 0
		from, into := m.clause(3, 3), m.clause(3, 4)
		what := say(from) + " into " + say(into)
		l, lost := Super(o, sel, from, into)
		want, wantLost := modelSuper(o, sel, from, into)
		agree(t, "Super "+what, l, want, lost, wantLost)
		r, lost := Resolve(o, sel, into)
		want, wantLost = modelResolve(o, sel, into)
		agree(t, "Resolve "+what, r, want, lost, wantLost)
		f, lost := Factor(o, sel, into)
		want, wantLost = modelFactor(o, sel, into)
		agree(t, "Factor "+what, f, want, lost, wantLost)
		counts["Super"] += len(l)
		counts["Resolve"] += len(r)
		counts["Factor"] += len(f)
	}
	if counts["Super"] < 5000 || counts["Resolve"] < 1000 || counts["Factor"] < 1000 {
		t.Errorf("too few steps: %v", counts)
	}
}

// wide: a clause of greater terms, with chains and bundles, so that instances come near the limits and go beyond them.
func (m maker) wide() api.Clause {
	var c api.Clause
	for range 1 + m.Intn(3) {
		t := m.thing(3)
		switch m.Intn(4) {
		case 0:
			t = chain(20+m.Intn(36), v(m.Intn(3)))
		case 1:
			t = flat(1+m.Intn(700), v(m.Intn(3)))
		case 2:
			t = fn("g", chain(20+m.Intn(36), v(m.Intn(3))), flat(1+m.Intn(300), v(m.Intn(2))))
		}
		l := api.Lit{Neg: m.Intn(3) == 0, L: t, R: m.thing(2)}
		if m.Intn(3) == 0 {
			l.L, l.R = fn("@p", t), fn("$true")
		}
		c = append(c, l)
	}
	return c
}

// Lost: of great clauses by chance what the words say.
func TestModelLost(t *testing.T) {
	m := newMaker(162)
	counts := map[bool]int{}
	steps := 0
	for range 300 {
		o, sel, from, into := m.order(), m.Intn(2) == 0, m.wide(), m.wide()
		if len(lits.Vars(into)) > 0 && m.Intn(2) == 0 {
			from = m.clause(2, 3)
		}
		if lits.Right(from) != api.OK || lits.Right(into) != api.OK || lits.Size(into)+lits.Size(from) > 1500 {
			continue
		}
		l, lost := Super(o, sel, from, into)
		want, wantLost := modelSuper(o, sel, from, into)
		agree(t, "Super", l, want, lost, wantLost)
		counts[lost]++
		steps += len(l)
		l, lost = Resolve(o, sel, into)
		want, wantLost = modelResolve(o, sel, into)
		agree(t, "Resolve", l, want, lost, wantLost)
		counts[lost]++
		steps += len(l)
		l, lost = Factor(o, sel, into)
		want, wantLost = modelFactor(o, sel, into)
		agree(t, "Factor", l, want, lost, wantLost)
		counts[lost]++
		steps += len(l)
	}
	if counts[true] < 25 || counts[false] < 500 || steps < 500 {
		t.Errorf("too few of a kind: %v, %d steps", counts, steps)
	}
}
