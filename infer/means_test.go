package infer

import (
	"fmt"
	"hash/fnv"
	"slices"
	"testing"

	"assize/api"
	"assize/lits"
	"assize/term"
)

// world: an interpretation with so many things, whose functions and predicates hang on its seed.
type world struct{ things, seed int }

// value: the thing that the term is; of a truth term 1 if it is true, else 0.
func (w world) value(t api.Term, env map[int]int) int {
	if t.Fn == "" {
		return env[t.Var]
	}
	if t.Fn == "$true" {
		return 1
	}
	h := fnv.New64a()
	fmt.Fprint(h, w.seed, t.Fn)
	for _, arg := range t.Args {
		fmt.Fprint(h, ",", w.value(arg, env))
	}
	if modelTruth(t) {
		return int(h.Sum64() >> 9 & 1)
	}
	return int(h.Sum64()>>9&0xffff) % w.things
}

// holdsAt: does a literal hold, where variables are these things?
func (w world) holdsAt(c api.Clause, env map[int]int) bool {
	return slices.ContainsFunc(c, func(l api.Lit) bool { return (w.value(l.L, env) == w.value(l.R, env)) != l.Neg })
}

// each: goes through all things that the variables may be, as long as go on is told; and did it come to the end?
func (w world) each(vars []int, env map[int]int, visit func() bool) bool {
	if len(vars) == 0 {
		return visit()
	}
	for thing := range w.things {
		env[vars[0]] = thing
		if !w.each(vars[1:], env, visit) {
			return false
		}
	}
	return true
}

// holds: does the clause hold, whatever things its variables are?
func (w world) holds(c api.Clause) bool {
	env := map[int]int{}
	return w.each(lits.Vars(c), env, func() bool { return w.holdsAt(c, env) })
}

// says: what a step says of its parents, by its instances alone, as a checker that knows no order would tell it; nothing, if something does not fit.
func says(s api.Step, parentA, parentB api.Clause) (api.Clause, bool) {
	for _, b := range slices.Concat(s.SA, s.SB) {
		if modelTruth(b.T) {
			return nil, false
		}
	}
	a, errno := lits.Apply(s.SA, parentA)
	if errno != api.OK || s.LitA >= len(a) {
		return nil, false
	}
	l := a[s.LitA]
	switch s.Rule {
	case api.REqRes:
		return without(a, s.LitA), l.Neg && term.Same(l.L, l.R)
	case api.REqFact:
		other := a[s.LitB]
		fit := !l.Neg && !other.Neg && s.LitA != s.LitB && term.Same(modelSide(l, s.FlipA), modelSide(other, s.FlipB))
		return append(without(a, s.LitA), not(modelSide(l, !s.FlipA), modelSide(other, !s.FlipB))), fit
	}
	b, errno := lits.Apply(s.SB, parentB)
	if errno != api.OK || s.LitB >= len(b) {
		return nil, false
	}
	side := modelSide(b[s.LitB], s.FlipB)
	part, errno := term.At(side, s.Pos)
	made, _ := term.Put(side, s.Pos, modelSide(l, !s.FlipA))
	if s.FlipB {
		b[s.LitB].R = made
	} else {
		b[s.LitB].L = made
	}
	return slices.Concat(b, without(a, s.LitA)), errno == api.OK && !l.Neg && term.Same(part, modelSide(l, s.FlipA))
}

// P1605: each step says what its instances say, and that holds for all things for which its parents' instances hold.
func TestFollowsInstances(t *testing.T) {
	m := newMaker(165)
	counts := map[int]int{}
	truths, open := 0, 0
	wantSays := func(s api.Step, a, b api.Clause) {
		whole, fit := says(s, a, b)
		if !fit || !lits.Equal(lits.Normal(whole), s.C) || !Sorted(s.C) || lits.Right(s.C) != api.OK {
			t.Fatalf("%s of %s and %s says %s", sayStep(s), say(a), say(b), say(whole))
		}
		counts[s.Rule]++
		left, _ := lits.Apply(s.SA, a)
		right, _ := lits.Apply(s.SB, b)
		vars := lits.Vars(slices.Concat(whole, left, right))
		if len(vars) > 4 {
			return
		}
		for seed := range 4 {
			w, env := world{things: 1 + seed%2, seed: m.Intn(1000)}, map[int]int{}
			w.each(vars, env, func() bool {
				truths++
				if w.holdsAt(left, env) && (s.Rule != api.RSup || w.holdsAt(right, env)) {
					open++
					if !w.holdsAt(whole, env) {
						t.Fatalf("%s of %s and %s does not follow for %v", sayStep(s), say(a), say(b), env)
					}
				}
				return true
			})
		}
	}
	for range 6000 {
		o, sel, from, into := m.order(), m.Intn(2) == 0, m.clause(3, 3), m.clause(3, 3)
		l, _ := Super(o, sel, from, into)
		for _, s := range l {
			wantSays(s, from, into)
		}
		l, _ = Resolve(o, sel, into)
		more, _ := Factor(o, sel, into)
		for _, s := range append(l, more...) {
			wantSays(s, into, nil)
		}
	}
	if counts[api.RSup] < 2000 || counts[api.REqRes] < 400 || counts[api.REqFact] < 1000 || open < 5000 || truths < open+1000 {
		t.Errorf("too few of a kind: %v, %d of %d", counts, open, truths)
	}
}

// P1605: in an interpretation in which the parents hold all that follows holds.
func TestFollows(t *testing.T) {
	m := newMaker(166)
	counts := map[int]int{}
	for range 6000 {
		o, sel, from, into := m.order(), m.Intn(2) == 0, m.clause(3, 2), m.clause(3, 3)
		steps, _ := Super(o, sel, from, into)
		l, _ := Resolve(o, sel, into)
		more, _ := Factor(o, sel, into)
		own := append(l, more...)
		if len(steps)+len(own) == 0 {
			continue
		}
		for seed := range 6 {
			w := world{things: 1 + seed%3, seed: m.Intn(1000)}
			if !w.holds(into) {
				continue
			}
			list := own
			if w.holds(from) {
				list = slices.Concat(own, steps)
			}
			for _, s := range list {
				counts[s.Rule]++
				if len(lits.Vars(s.C)) <= 6 && !w.holds(s.C) {
					t.Fatalf("%s does not follow of %s and %s", sayStep(s), say(from), say(into))
				}
			}
		}
	}
	if counts[api.RSup] < 1000 || counts[api.REqRes] < 300 || counts[api.REqFact] < 1000 {
		t.Errorf("too few of a kind: %v", counts)
	}
}

// P1605: where a variable could be a truth, what would follow does not.
func TestFollowsSorts(t *testing.T) {
	w := world{things: 1}
	for w.value(fn("@p"), nil) == 0 || w.value(fn("@q"), nil) == 1 {
		w.seed++
	}
	one, p := read(t, "X0=X1"), read(t, "@p")
	if !w.holds(one) || !w.holds(p) || w.holds(read(t, "@q")) {
		t.Fatal("no such world")
	}
	for _, sel := range []bool{false, true} {
		for _, into := range []string{"@p", "~@q", "@p=$true", "$true!=@q", "@p!=@q", "@p | ~@q", "$true=$true"} {
			l, lost := Super(kb(""), sel, one, read(t, into))
			if len(l) > 0 || lost {
				t.Errorf("from X0=X1 into %s: %s", into, saySteps(l))
			}
			for _, c := range []string{"X0=X1 | " + into, into + " | X0=X1"} {
				l, lost = Factor(kb(""), false, read(t, c))
				if lost || slices.ContainsFunc(l, func(s api.Step) bool { return !w.holds(s.C) || len(s.SA) > 0 && modelTruth(s.SA[0].T) }) {
					t.Errorf("Factor of %s: %s", c, saySteps(l))
				}
			}
		}
	}
}
