package check

import (
	"fmt"
	"hash/fnv"
	"maps"
	"slices"
	"strings"
	"testing"

	"assize/api"
	"assize/lits"
	"assize/saturate"
)

// world: an interpretation with so many things, whose functions and predicates hang on its seed.
type world struct{ things, seed int }

// value: the thing that the term is; of a truth term 1 if it is true, else 0. Variables are told by their names, those of clauses as those of formulas are.
func (w world) value(t api.Term, env map[string]int) int {
	name := t.Fn
	if name == "" {
		name = fmt.Sprint("X", t.Var)
	}
	if thing, ok := env[name]; ok {
		return thing
	}
	if name == "$true" {
		return 1
	}
	h := fnv.New64a()
	fmt.Fprint(h, w.seed, name)
	for _, arg := range t.Args {
		fmt.Fprint(h, ",", w.value(arg, env))
	}
	if modelTruth(t) {
		return int(h.Sum64() >> 9 & 1)
	}
	return int(h.Sum64()>>9&0xffff) % w.things
}

// clause: does it hold, whatever things its variables are?
func (w world) clause(c api.Clause) bool {
	env := map[string]int{}
	var each func(vars []int) bool
	each = func(vars []int) bool {
		if len(vars) == 0 {
			return slices.ContainsFunc(c, func(l api.Lit) bool { return (w.value(l.L, env) == w.value(l.R, env)) != l.Neg })
		}
		for thing := range w.things {
			env[fmt.Sprint("X", vars[0])] = thing
			if !each(vars[1:]) {
				return false
			}
		}
		return true
	}
	return each(lits.Vars(c))
}

// holds: as the formula's signs say.
func (w world) holds(f api.Formula, env map[string]int) bool {
	kid := func(i int) bool { return w.holds(f.Kids[i], env) }
	switch f.Kind {
	case api.FTrue, api.FFalse:
		return f.Kind == api.FTrue
	case api.FNot:
		return !kid(0)
	case api.FAnd:
		return kid(0) && kid(1)
	case api.FOr:
		return kid(0) || kid(1)
	case api.FImp:
		return !kid(0) || kid(1)
	case api.FIff:
		return kid(0) == kid(1)
	case api.FAll, api.FEx:
		inner := maps.Clone(env)
		for thing := range w.things {
			inner[f.Name] = thing
			if w.holds(f.Kids[0], inner) == (f.Kind == api.FEx) {
				return f.Kind == api.FEx
			}
		}
		return f.Kind == api.FAll
	}
	return w.value(f.L, env) == w.value(f.R, env)
}

// held: a clause that holds there.
func (m maker) held(w world, make func() api.Clause) api.Clause {
	for {
		if c := make(); w.clause(c) {
			return c
		}
	}
}

// any: a step of any rule, of these clauses, by chance; most say nothing.
func (m maker) any(clauses []api.Clause) api.Step {
	s := api.Step{Rule: 2 + m.Intn(5), A: m.Intn(len(clauses)), B: m.Intn(len(clauses)), FlipA: m.Intn(2) == 0, FlipB: m.Intn(2) == 0, SA: m.binds(8), SB: m.binds(8)}
	s.LitA = m.Intn(1 + len(clauses[s.A]))
	s.LitB = m.Intn(1 + len(clauses[s.B]))
	if s.Rule == api.RSup || s.Rule == api.RDemod {
		list := places(clauses[s.B])
		s.Pos = list[m.Intn(len(list))]
	}
	if m.Intn(2) == 0 {
		s.SA = nil
	}
	if m.Intn(2) == 0 {
		s.SB = nil
	}
	return s
}

// P1904: where the clauses hold all holds that steps say of them, and of what comes of them, whatever they speak of: never the empty clause.
func TestSoundSteps(t *testing.T) {
	m := newMaker(194)
	rules := map[int]int{}
	for range 250 {
		w := world{things: 1 + m.Intn(3), seed: m.Intn(1000)}
		var clauses []api.Clause
		for range 5 {
			clauses = append(clauses, m.held(w, func() api.Clause { return m.alike(3) }), m.held(w, func() api.Clause { return m.clause(2, 2) }))
		}
		proof := told(clauses...)
		for range 1500 {
			s := m.any(clauses)
			c, errno := Step(nil, append(proof, s), len(proof))
			if errno != api.OK || len(lits.Vars(c)) > 4 {
				continue
			}
			if !w.clause(c) {
				t.Fatalf("in %v, of %s, %s says %s, which does not hold", w, sayAll(clauses), sayStep(s), say(c))
			}
			rules[s.Rule]++
			if len(c) < 4 && lits.Size(c) < 20 && len(clauses) < 40 {
				s.C = c
				clauses, proof = append(clauses, c), append(proof, s)
			}
		}
	}
	for rule := api.RSup; rule <= api.RClean; rule++ {
		if rules[rule] < 300 {
			t.Errorf("rule %d: too few: %d", rule, rules[rule])
		}
	}
}

// P1904: a proof of clauses is none any more where they are others that hold somewhere.
func TestSoundProofs(t *testing.T) {
	m := newMaker(195)
	still, none := 0, 0
	for range 1500 {
		var given []Given
		for i := range 4 + m.Intn(3) {
			given = append(given, Given{fmt.Sprint("in", i), []api.Clause{m.clause(2, 2), m.clause(2, 2)}})
		}
		proof := refutation(t, given, saturate.Strategy{Ratio: 2}, 40)
		if len(proof) == 0 {
			continue
		}
		w := world{things: 1 + m.Intn(3), seed: m.Intn(1000)}
		for _, g := range given {
			for i := range g.L {
				if m.Intn(12) == 0 {
					g.L[i] = m.clause(2, 2)
				}
			}
		}
		_, errno := Proof(given, proof)
		all := !slices.ContainsFunc(given, func(g Given) bool {
			return slices.ContainsFunc(g.L, func(c api.Clause) bool { return !w.clause(c) })
		})
		if errno == api.OK {
			still++
			if all {
				t.Fatalf("in %v all of %s holds, against\n%s", w, sayGiven(given), saySteps(proof))
			}
		} else {
			none++
		}
	}
	if still < 100 || none < 100 {
		t.Errorf("too few of a kind: %d, %d", still, none)
	}
}

// sentence: a closed formula's text, of few names; vars are those that it may have.
func (m maker) sentence(depth int, vars []string) string {
	term := func() string {
		return append(vars[:len(vars):len(vars)], "a", "b")[m.Intn(len(vars)+2)]
	}
	if depth == 0 {
		switch m.Intn(5) {
		case 0:
			return "p(" + term() + ")"
		case 1:
			return "r(" + term() + "," + term() + ")"
		case 2:
			return term() + " = " + m.pick("f("+term()+")", term())
		case 3:
			return term() + " != " + term()
		}
		return m.pick("q", "s", "p(f("+term()+"))")
	}
	switch m.Intn(6) {
	case 0, 1:
		name := []string{"X", "Y", "Z"}[len(vars)%3]
		return m.pick("!", "?") + " [" + name + "] : " + m.sentence(depth-1, append(vars[:len(vars):len(vars)], name))
	case 2:
		return "~ " + m.sentence(depth-1, vars)
	}
	return "(" + m.sentence(depth-1, vars) + m.pick(" & ", " | ", " => ", " <=> ") + m.sentence(depth-1, vars) + ")"
}

// problem: axioms and a goal, which follows now and then.
func (m maker) problem() ([]Named, api.Formula) {
	var list []Named
	for i := range 1 + m.Intn(4) {
		list = append(list, Named{fmt.Sprint("ax", i), formula(m.sentence(1+m.Intn(3), nil))})
	}
	return list, formula(m.sentence(m.Intn(3), nil))
}

// wantFollows: wherever the axioms hold the goal does; and in how many interpretations, of those tried, they do.
func wantFollows(t *testing.T, l []Named, goal api.Formula, proof []api.Step) int {
	t.Helper()
	models := 0
	for seed := range 60 {
		w := world{things: 1 + seed%4, seed: seed}
		if slices.ContainsFunc(l, func(n Named) bool { return !w.holds(n.F, map[string]int{}) }) {
			continue
		}
		models++
		if !w.holds(goal, map[string]int{}) {
			t.Fatalf("in %v %s hold, %s does not, against\n%s", w, sayNamed(l), sayFormula(goal), saySteps(proof))
		}
	}
	return models
}

// P1903, P1904: a proof that a search finds of a problem is OK, and then the goal holds wherever the axioms do; with other axioms, or another goal, that is so too, or it is none.
func TestVerifyMeans(t *testing.T) {
	m := newMaker(196)
	proofs, models, still, none := 0, 0, 0, 0
	for range 2500 {
		l, goal := m.problem()
		given, errno := Problem(l, goal)
		if errno != api.OK {
			t.Fatalf("%s: %d", sayNamed(l), errno)
		}
		proof := refutation(t, given, saturate.Strategy{Ratio: 3}, 60)
		if len(proof) == 0 {
			continue
		}
		if at, errno := Verify(l, goal, proof); at != 0 || errno != api.OK {
			t.Fatalf("%s, %s:\n%s\n%d, %d", sayNamed(l), sayFormula(goal), saySteps(proof), at, errno)
		}
		proofs++
		models += wantFollows(t, l, goal, proof)
		other, otherGoal := m.problem()
		switch m.Intn(4) {
		case 0:
			other, otherGoal = l, api.Formula{Kind: api.FNot, Kids: []api.Formula{goal}}
		case 1:
			other = l
		case 2:
			other, otherGoal = append(slices.Clone(l[1:]), Named{"new", l[0].F}), goal
		case 3:
			other, otherGoal = slices.Clone(l), goal
			other[m.Intn(len(l))].F = formula(m.sentence(2, nil))
		}
		at, errno := Verify(other, otherGoal, proof)
		given, _ = Problem(other, otherGoal)
		if want, wantErrno := modelProof(given, proof); at != want || errno != wantErrno {
			t.Fatalf("%s, %s:\n%s\n%d, %d, not %d, %d", sayNamed(other), sayFormula(otherGoal), saySteps(proof), at, errno, want, wantErrno)
		}
		if errno == api.OK {
			still++
			wantFollows(t, other, otherGoal, proof)
		} else {
			none++
		}
	}
	if proofs < 300 || models < 500 || still < 30 || none < 100 {
		t.Errorf("too few: %d, %d, %d, %d", proofs, models, still, none)
	}
}

// P1904: Skolem terms of two formulas are two things, even where the formulas are alike.
func TestVerifySkolems(t *testing.T) {
	for _, c := range []struct {
		l      []Named
		goal   string
		proved bool
	}{
		{axioms("a: ? [X] : p(X)", "b: ? [X] : q(X)"), "? [X] : (p(X) & q(X))", false}, {axioms("a: ? [X] : (p(X) & q(X))"), "? [X] : (q(X) & p(X))", true},
		{axioms("a: ? [X] : p(X)"), "! [X] : p(X)", false}, {axioms("a: ! [X] : p(X)"), "? [X] : p(X)", true}, {axioms("a: ! [X] : ? [Y] : r(X,Y)"), "? [Y] : ! [X] : r(X,Y)", false}, {axioms("a: ? [Y] : ! [X] : r(X,Y)"), "! [X] : ? [Y] : r(X,Y)", true},
		{axioms("a: ? [X] : f(X) = a", "b: ? [X] : f(X) = b"), "a = b", false}, {axioms("a: ! [X,Y] : X = Y"), "(p(a) => p(b))", true}, {axioms("a: ! [X,Y] : X = Y"), "(p => q)", false}, {nil, "(p | ~ p)", true}, {nil, "p", false}, {nil, "? [X] : X = X", true},
		{axioms("a: (p & ~ p)"), "$false", true}, {axioms("a: ? [X] : p(X)", "b: ? [X] : ~ p(X)"), "$false", false}, {axioms("a: $false"), "p", true}, {nil, "$true", true},
	} {
		given, _ := Problem(c.l, formula(c.goal))
		proof := refutation(t, given, saturate.Strategy{Ratio: 3}, 200)
		_, errno := Verify(c.l, formula(c.goal), proof)
		if (errno == api.OK) != c.proved || (len(proof) > 0) != c.proved {
			t.Errorf("%s, %s: %d\n%s", sayNamed(c.l), c.goal, errno, saySteps(proof))
		}
	}
	// what would be a proof, if both had one tag
	l := axioms("a: ? [X] : p(X)", "b: ? [X] : ~ p(X)")
	same := []api.Step{{Rule: api.RInput, Name: "a", C: read("@p($s0_0)")}, {Rule: api.RInput, Name: "b", C: read("~@p($s0_0)")}, {Rule: api.RSup, A: 0, B: 1, C: of(not(fn("$true"), fn("$true")))}, {Rule: api.REqRes, A: 2}}
	if at, errno := Verify(l, formula("$false"), same); at != 1 || errno != api.ErrProof {
		t.Errorf("one tag: %d, %d", at, errno)
	}
}

func sayNamed(l []Named) string {
	var list []string
	for _, n := range l {
		list = append(list, n.Name+": "+sayFormula(n.F))
	}
	return strings.Join(list, "; ")
}
