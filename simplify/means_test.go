package simplify

import (
	"fmt"
	"hash/fnv"
	"slices"
	"testing"

	"assize/api"
	"assize/infer"
	"assize/kbo"
	"assize/lits"
	"assize/multi"
	"assize/term"
)

// world: an interpretation with so many things, whose functions and predicates hang on its seed.
type world struct{ things, seed int }

// value: the thing that the term is; of a truth term 1 if it is true, else 0.
func (w world) value(t api.Term, env map[int]int) int {
	if t.Fn == "" {
		return env[t.Var]
	}
	if t.Fn == "$true" {
		return 1
	}
	h := fnv.New64a()
	fmt.Fprint(h, w.seed, t.Fn)
	for _, arg := range t.Args {
		fmt.Fprint(h, ",", w.value(arg, env))
	}
	if modelTruth(t) {
		return int(h.Sum64() >> 9 & 1)
	}
	return int(h.Sum64()>>9&0xffff) % w.things
}

// holdsAt: does a literal hold, where variables are these things?
func (w world) holdsAt(c api.Clause, env map[int]int) bool {
	return slices.ContainsFunc(c, func(l api.Lit) bool { return (w.value(l.L, env) == w.value(l.R, env)) != l.Neg })
}

// each: goes through all things that the variables may be, as long as go on is told; and did it come to the end?
func (w world) each(vars []int, env map[int]int, visit func() bool) bool {
	if len(vars) == 0 {
		return visit()
	}
	for thing := range w.things {
		env[vars[0]] = thing
		if !w.each(vars[1:], env, visit) {
			return false
		}
	}
	return true
}

// holds: does the clause hold, whatever things its variables are?
func (w world) holds(c api.Clause) bool {
	env := map[int]int{}
	return w.each(lits.Vars(c), env, func() bool { return w.holdsAt(c, env) })
}

// P1704: where a clause holds all that it subsumes does.
func TestSubsumedHolds(t *testing.T) {
	m := newMaker(176)
	pairs, worlds := 0, 0
	for range 20000 {
		c, d := m.clause(2, 2), m.clause(4, 2)
		if made, errno := lits.Apply(m.binds(), c); errno == api.OK && m.Intn(2) == 0 {
			d = append(made, d...)
		}
		if !Subsumes(c, d) || len(lits.Vars(d)) > 4 {
			continue
		}
		pairs++
		for seed := range 6 {
			w := world{things: 1 + seed%3, seed: m.Intn(1000)}
			if !w.holds(c) {
				continue
			}
			worlds++
			if !w.holds(d) {
				t.Fatalf("%s subsumes %s, which does not hold", say(c), say(d))
			}
		}
	}
	if pairs < 3000 || worlds < 3000 {
		t.Errorf("too few: %d, %d", pairs, worlds)
	}
}

// P1704: where a variable could be a truth, what would be subsumed, or come, does not hold.
func TestHoldsSorts(t *testing.T) {
	w := world{things: 1}
	for w.value(fn("@p"), nil) == 0 || w.value(fn("@q"), nil) == 1 {
		w.seed++
	}
	one, two := read(t, "X0=X1"), read(t, "X0!=X1 | @p")
	if !w.holds(one) || !w.holds(two) || w.holds(read(t, "@q")) {
		t.Fatal("no such world")
	}
	for _, in := range []string{"@p", "@q", "~@p", "@p=@q", "@p!=@q", "@q!=$true | @p", "@p!=$true | @p", "@q | ~@p", "$true!=$true"} {
		c := read(t, in)
		if (Subsumes(one, c) || Subsumes(two, c)) && !w.holds(c) {
			t.Errorf("%s is subsumed", in)
		}
		for _, o := range []multi.Order{kb("@p @q"), kb("@q @p"), lp("@p @q"), lp("@q @p")} {
			if l, lost := Rewrite(o, []Unit{{C: one}}, c); len(l) > 0 || lost {
				t.Errorf("%s is rewritten: %s", in, saySteps(l))
			}
		}
	}
}

// rewrittenBy: what a step makes of the clause, not normal yet, as a checker that knows no order would tell it, and the unit's instance; nothing, if something does not fit.
func rewrittenBy(s api.Step, unit, c api.Clause) (made, instance api.Clause, fit bool) {
	instance, errno := lits.Apply(s.SB, unit)
	if errno != api.OK || len(instance) != 1 || instance[0].Neg || s.LitA < 0 || s.LitA >= len(c) || slices.ContainsFunc(s.SB, func(b api.Bind) bool { return modelTruth(b.T) }) {
		return nil, nil, false
	}
	side := modelSide(c[s.LitA], s.FlipA)
	part, errno := term.At(side, s.Pos)
	if errno != api.OK || !term.Same(part, modelSide(instance[0], s.FlipB)) {
		return nil, nil, false
	}
	put, _ := term.Put(side, s.Pos, modelSide(instance[0], !s.FlipB))
	made = slices.Clone(c)
	if s.FlipA {
		made[s.LitA].R = put
	} else {
		made[s.LitA].L = put
	}
	return made, instance, true
}

// wantBoth: wherever the unit's instance holds, both clauses hold, or neither does.
func (m maker) wantBoth(t *testing.T, instance, c, made api.Clause) (open int) {
	t.Helper()
	vars := lits.Vars(slices.Concat(instance, c, made))
	if len(vars) > 4 {
		return 0
	}
	for seed := range 4 {
		w, env := world{things: 1 + seed%2, seed: m.Intn(1000)}, map[int]int{}
		w.each(vars, env, func() bool {
			if w.holdsAt(instance, env) {
				open++
				if w.holdsAt(c, env) != w.holdsAt(made, env) {
					t.Fatalf("by %s not both hold: %s, %s", say(instance), say(c), say(made))
				}
			}
			return true
		})
	}
	return open
}

// P1704: each step is what its unit's instance says, both ways; and it makes the clause Less, whatever the names are then.
func TestRewriteFollows(t *testing.T) {
	m := newMaker(177)
	steps, open := 0, 0
	for range 6000 {
		o, c := m.order(), m.clause(3, 4)
		var units []Unit
		for i := range 1 + m.Intn(5) {
			units = append(units, Unit{Id: i, C: m.unit(3)})
		}
		l, _ := Rewrite(o, units, c)
		for _, s := range l {
			made, instance, fit := rewrittenBy(s, units[s.B].C, c)
			if !fit || !lits.Equal(lits.Normal(made), s.C) || lits.Right(s.C) != api.OK || !infer.Sorted(s.C) {
				t.Fatalf("%s of %s by %s says %s", sayStep(s), say(c), say(units[s.B].C), say(made))
			}
			if o.Clauses(made, c) != kbo.Less {
				t.Fatalf("%s is not less than %s", say(made), say(c))
			}
			steps++
			open += m.wantBoth(t, instance, c, made)
			c = s.C
		}
	}
	if steps < 3000 || open < 10000 {
		t.Errorf("too few: %d, %d", steps, open)
	}
}

// P1704: in an interpretation in which the units hold, the clause and what comes of it hold both, or neither.
func TestRewriteMeans(t *testing.T) {
	m := newMaker(178)
	counts := map[bool]int{}
	for range 8000 {
		o, c := m.order(), m.clause(3, 3)
		units := []Unit{{Id: 0, C: m.unit(2)}, {Id: 1, C: m.unit(3)}}
		l, _ := Rewrite(o, units, c)
		if len(l) == 0 || len(lits.Vars(c)) > 4 {
			continue
		}
		for seed := range 6 {
			w := world{things: 1 + seed%3, seed: m.Intn(1000)}
			before := w.holds(c)
			for _, s := range l {
				// of a unit that stays unused it counts nothing whether it holds
				if !w.holds(units[s.B].C) || len(lits.Vars(s.C)) > 4 {
					break
				}
				counts[before]++
				if w.holds(s.C) != before {
					t.Fatalf("%s of %s by %s means something else", sayStep(s), say(c), say(units[s.B].C))
				}
			}
		}
	}
	if counts[true] < 1000 || counts[false] < 200 {
		t.Errorf("too few of a kind: %v", counts)
	}
}

// P1704: what Clean leaves means the same.
func TestCleanMeans(t *testing.T) {
	m := newMaker(179)
	counts := map[bool]int{}
	for range 4000 {
		c := m.clause(3, 2)
		c = append(c, not(c[0].L, c[0].L))
		s, ok := Clean(c)
		if !ok || len(lits.Vars(c)) > 4 {
			continue
		}
		w := world{things: 1 + m.Intn(3), seed: m.Intn(1000)}
		counts[w.holds(c)]++
		if w.holds(c) != w.holds(s.C) {
			t.Fatalf("%s of %s means something else", sayStep(s), say(c))
		}
	}
	if counts[true] < 500 || counts[false] < 500 {
		t.Errorf("too few of a kind: %v", counts)
	}
}
