package simplify

import (
	"slices"
	"strings"
	"testing"

	"assize/api"
	"assize/infer"
	"assize/kbo"
	"assize/lits"
	"assize/multi"
	"assize/subst"
	"assize/term"
)

// The chapter's words, one by one, with no eye on time: no tree, no pruning, all ways to place literals.

func modelTruth(t api.Term) bool { return t.Fn == "$true" || strings.HasPrefix(t.Fn, "@") }

// modelMatch: what stands for variables already, and what must for the pattern to become the term; nil, if nothing can.
func modelMatch(pattern, t api.Term, binds map[int]api.Term) map[int]api.Term {
	if pattern.Fn == "" {
		if other, met := binds[pattern.Var]; modelTruth(t) || met && !term.Same(other, t) {
			return nil
		}
		more := map[int]api.Term{pattern.Var: t}
		for number, part := range binds {
			more[number] = part
		}
		return more
	}
	if pattern.Fn != t.Fn || len(pattern.Args) != len(t.Args) {
		return nil
	}
	for i := range pattern.Args {
		if binds = modelMatch(pattern.Args[i], t.Args[i], binds); binds == nil {
			return nil
		}
	}
	return binds
}

func modelRight(c api.Clause) bool { return lits.Right(c) == api.OK && infer.Sorted(c) }

func modelSubsumes(c, d api.Clause) bool {
	if !modelRight(c) || !modelRight(d) {
		return false
	}
	if len(c) > 4 {
		return say(lits.Normal(c)) == say(lits.Normal(d))
	}
	return modelPlace(c, d, map[int]api.Term{})
}

// modelPlace: tries each literal of d, both ways round, for the first one of c, then the others without it.
func modelPlace(c, d api.Clause, binds map[int]api.Term) bool {
	if len(c) == 0 {
		return true
	}
	for i, l := range d {
		for _, sides := range [][2]api.Term{{l.L, l.R}, {l.R, l.L}} {
			if l.Neg != c[0].Neg {
				continue
			}
			more := modelMatch(c[0].L, sides[0], binds)
			if more != nil {
				more = modelMatch(c[0].R, sides[1], more)
			}
			if more != nil && modelPlace(c[1:], slices.Delete(slices.Clone(d), i, i+1), more) {
				return true
			}
		}
	}
	return false
}

func modelSide(l api.Lit, flip bool) api.Term {
	if flip {
		return l.R
	}
	return l.L
}

// modelRewrite: the words of P1702.
func modelRewrite(o multi.Order, units []Unit, c api.Clause) (steps []api.Step, lost bool) {
	if kbo.Right(o.G) != api.OK || !modelRight(c) {
		return nil, false
	}
	units = slices.DeleteFunc(slices.Clone(units), func(u Unit) bool { return len(u.C) != 1 || u.C[0].Neg || !modelRight(u.C) })
	for {
		step, found := modelNext(o, units, c)
		if !found {
			return steps, false
		}
		if lits.Right(step.C) != api.OK || len(steps) == 200 {
			return steps, true
		}
		step.C = lits.Normal(step.C)
		steps = append(steps, step)
		c = step.C
	}
}

func modelNext(o multi.Order, units []Unit, c api.Clause) (api.Step, bool) {
	for i, l := range c {
		for _, flip := range []bool{false, true} {
			side, other := modelSide(l, flip), modelSide(l, !flip)
			for _, place := range term.Places(side) {
				part, _ := term.At(side, place)
				if part.Fn == "" || len(place) == 0 && !l.Neg && o.Terms(side, other) != kbo.Less {
					continue
				}
				if step, found := modelUnit(o, units, part); found {
					put, _ := term.Put(side, place, step.C[0].R)
					made := slices.Clone(c)
					made[i] = api.Lit{Neg: l.Neg, L: put, R: other}
					if flip {
						made[i].L, made[i].R = other, put
					}
					step.LitA, step.FlipA, step.Pos, step.C = i, flip, place, made
					return step, true
				}
			}
		}
	}
	return api.Step{}, false
}

// modelUnit: the step by the first of the units, which all are some, that rewrites the part; its C says what the part becomes.
func modelUnit(o multi.Order, units []Unit, part api.Term) (api.Step, bool) {
	for _, u := range units {
		for _, flip := range []bool{false, true} {
			side, other := modelSide(u.C[0], flip), modelSide(u.C[0], !flip)
			binds := modelMatch(side, part, map[int]api.Term{})
			if text(side) == "$true" || binds == nil {
				continue
			}
			step := api.Step{Rule: api.RDemod, B: u.Id, FlipB: flip}
			for _, number := range term.Vars(side) {
				if text(binds[number]) != text(v(number)) {
					step.SB = append(step.SB, api.Bind{Var: number, T: binds[number]})
				}
			}
			becomes, errno := subst.Apply(step.SB, other)
			if errno == api.OK && o.Terms(part, becomes) == kbo.Greater {
				step.C = of(yes(part, becomes))
				return step, true
			}
		}
	}
	return api.Step{}, false
}

// P1701: of clauses by chance, and of instances of them with more literals, what the words say.
func TestModelSubsumes(t *testing.T) {
	m := newMaker(171)
	counts := map[bool]int{}
	for range 30000 {
		c, d := m.clause(3, 1+m.Intn(3)), m.clause(4, 3)
		if m.Intn(3) > 0 {
			made, errno := lits.Apply(m.binds(), c)
			if errno != api.OK {
				continue
			}
			d = append(m.clause(2, 2), made...)
			m.Shuffle(len(d), func(i, k int) { d[i], d[k] = d[k], d[i] })
			for i, l := range d {
				if m.Intn(3) == 0 {
					d[i].L, d[i].R = l.R, l.L
				}
			}
			d = d[m.Intn(2):]
		}
		want := modelSubsumes(c, d)
		counts[want]++
		if got := Subsumes(c, d); got != want {
			t.Fatalf("Subsumes(%s, %s): %v", say(c), say(d), got)
		}
	}
	if counts[true] < 5000 || counts[false] < 5000 {
		t.Errorf("too few of a kind: %v", counts)
	}
}

// binds: for some of the variables 0 to 2.
func (m maker) binds() []api.Bind {
	var s []api.Bind
	for number := range 3 {
		if t := m.thing(2); m.Intn(3) > 0 && text(t) != text(v(number)) {
			s = append(s, api.Bind{Var: number, T: t})
		}
	}
	return s
}

// P1701: of all pairs of small clauses of few literals what the words say.
func TestModelSubsumesAll(t *testing.T) {
	var literals []api.Lit
	for _, text := range []string{"X0=X1", "X0=X0", "X0!=X1", "a=X0", "X1=a", "a=b", "@p(X0)", "@p(X1)", "@p(a)", "~@p(X0)", "@r", "$true=$true", "@q(X0,X1)", "@q(X1,X0)", "@q(a,X1)", "@q(X0,X0)"} {
		literals = append(literals, read(t, text)...)
	}
	clauses := []api.Clause{nil}
	for _, one := range literals {
		clauses = append(clauses, of(one))
		for _, two := range literals {
			clauses = append(clauses, of(one, two))
		}
	}
	yes := 0
	for _, c := range clauses {
		for _, d := range clauses {
			want := modelSubsumes(c, d)
			if want {
				yes++
			}
			if got := Subsumes(c, d); got != want {
				t.Fatalf("Subsumes(%s, %s): %v", say(c), say(d), got)
			}
		}
	}
	if yes < 1000 {
		t.Errorf("only %d", yes)
	}
}

// unit: one that rewrites, mostly.
func (m maker) unit(depth int) api.Clause {
	c := of(m.literal(depth))
	c[0].Neg = m.Intn(12) == 0
	switch m.Intn(20) {
	case 0:
		c = append(c, m.literal(1))
	case 1:
		c[0].L = fn("f", fn("@r"))
	case 2:
		c[0].R = v(-1)
	case 3:
		c = nil
	}
	return c
}

func (m maker) units(most, depth int) []Unit {
	var list []Unit
	for range m.Intn(most + 1) {
		list = append(list, Unit{Id: m.Intn(100) - 20, C: m.unit(depth)})
	}
	return list
}

// sameStep: are both alike, all through?
func sameStep(a, b api.Step) bool {
	sameBind := func(x, y api.Bind) bool { return x.Var == y.Var && term.Same(x.T, y.T) }
	numbers := func(s api.Step) [6]int { return [6]int{s.Rule, s.Index, s.A, s.B, s.LitA, s.LitB} }
	return numbers(a) == numbers(b) && a.Name == b.Name && a.FlipA == b.FlipA && a.FlipB == b.FlipB && slices.Equal(a.Pos, b.Pos) &&
		slices.EqualFunc(a.SA, b.SA, sameBind) && slices.EqualFunc(a.SB, b.SB, sameBind) && lits.Equal(a.C, b.C)
}

// wantModel: all ways tell the same as the words.
func wantModel(t *testing.T, o multi.Order, units []Unit, c api.Clause) ([]api.Step, bool) {
	t.Helper()
	steps, lost := modelRewrite(o, units, c)
	for name, a := range rewrites(o, units, c) {
		if !slices.EqualFunc(a.steps, steps, sameStep) || a.lost != lost {
			t.Fatalf("%s of %s by %v:\n%s, %v, not\n%s, %v", name, say(c), units, saySteps(a.steps), a.lost, saySteps(steps), lost)
		}
	}
	return steps, lost
}

// P1702: of clauses and units by chance what the words say, by both orders.
func TestModelRewrite(t *testing.T) {
	m := newMaker(172)
	counts := map[int]int{}
	for range 20000 {
		l, _ := wantModel(t, m.order(), m.units(6, 3), m.clause(3, 4))
		counts[min(len(l), 4)]++
		for _, s := range l {
			if s.FlipA {
				counts[10]++
			}
			if s.FlipB {
				counts[11]++
			}
			if len(s.Pos) == 0 {
				counts[12]++
			}
		}
	}
	for _, kind := range []int{0, 1, 2, 3, 4, 10, 11, 12} {
		if counts[kind] < 400 {
			t.Errorf("too few of a kind: %v", counts)
		}
	}
}

// P1702: of clauses with more parts, and of many units among which few rewrite, by chance what the words say.
func TestModelRewriteMany(t *testing.T) {
	m := newMaker(173)
	steps := 0
	for range 250 {
		c := append(m.clause(3, 3), bulk())
		for len(c) < 6 {
			c = append(c, m.literal(4))
		}
		units := append(m.units(6, 3), crowd()...)
		m.Shuffle(len(units), func(i, k int) { units[i], units[k] = units[k], units[i] })
		m.Shuffle(len(c), func(i, k int) { c[i], c[k] = c[k], c[i] })
		l, _ := wantModel(t, m.order(), units, c)
		steps += len(l)
	}
	if steps < 150 {
		t.Errorf("only %d steps", steps)
	}
}

// wide: a clause of greater terms, so that what comes is near the limits, or beyond them.
func (m maker) wide() api.Clause {
	var c api.Clause
	for range 1 + m.Intn(3) {
		leaf := m.thing(3)
		t := flat(1+m.Intn(600), leaf)
		switch m.Intn(3) {
		case 0:
			t = chain(20+m.Intn(36), leaf)
		case 1:
			t = fn("g", chain(10+m.Intn(40), leaf), flat(1+m.Intn(900), m.thing(2)))
		}
		l := api.Lit{Neg: m.Intn(2) == 0, L: t, R: m.thing(3)}
		if m.Intn(3) == 0 {
			l.L, l.R = fn("@p", t), fn("$true")
		}
		c = append(c, l)
	}
	return c
}

// named: those that have no variable as a side: such a one is tried at each part of a great clause, and that takes long.
func named(units []Unit) []Unit {
	return slices.DeleteFunc(units, func(u Unit) bool {
		return slices.ContainsFunc(u.C, func(l api.Lit) bool { return isVar(l.L) || isVar(l.R) })
	})
}

// P1702: of great clauses by chance, and of units that make them greater, what the words say.
func TestModelRewriteGreat(t *testing.T) {
	m := newMaker(174)
	counts, steps := map[bool]int{}, 0
	for range 40 {
		o, units := m.order(), named(m.units(3, 3))
		if m.Intn(2) == 0 {
			o = lp("a b c flat f g @p")
			grows := []string{"g(X0,X1)=flat(X0,X1,X0,X1)", "f(X0)=flat(X0,X0,a)", "c=flat(b,b,b,b,b,b,b,b,b,b,b)", "g(X0,X1)=f(f(f(f(f(X0)))))", "f(f(X0))=flat(X0,X0,X0,X0,X0)"}
			units = append(units, Unit{Id: 99, C: read(t, m.pick(grows...))})
		}
		c := m.wide()
		if lits.Size(c) > 2000 {
			continue
		}
		l, lost := wantModel(t, o, units, c)
		counts[lost]++
		steps += len(l)
	}
	if counts[true] < 6 || counts[false] < 12 || steps < 400 {
		t.Errorf("too few of a kind: %v, %d steps", counts, steps)
	}
}
