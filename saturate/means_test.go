package saturate

import (
	"fmt"
	"hash/fnv"
	"slices"
	"strings"
	"testing"

	"assize/api"
	"assize/infer"
	"assize/kbo"
	"assize/lits"
	"assize/term"
)

func isTruth(t api.Term) bool { return t.Fn == "$true" || strings.HasPrefix(t.Fn, "@") }

// world: an interpretation with so many things, whose functions and predicates hang on its seed.
type world struct{ things, seed int }

// value: the thing that the term is; of a truth term 1 if it is true, else 0.
func (w world) value(t api.Term, env map[int]int) int {
	if t.Fn == "" {
		return env[t.Var]
	}
	if t.Fn == "$true" {
		return 1
	}
	h := fnv.New64a()
	fmt.Fprint(h, w.seed, t.Fn)
	for _, arg := range t.Args {
		fmt.Fprint(h, ",", w.value(arg, env))
	}
	if isTruth(t) {
		return int(h.Sum64() >> 9 & 1)
	}
	return int(h.Sum64()>>9&0xffff) % w.things
}

// holds: does the clause hold, whatever things its variables are?
func (w world) holds(c api.Clause) bool {
	env := map[int]int{}
	var each func(vars []int) bool
	each = func(vars []int) bool {
		if len(vars) == 0 {
			return slices.ContainsFunc(c, func(l api.Lit) bool { return (w.value(l.L, env) == w.value(l.R, env)) != l.Neg })
		}
		for thing := range w.things {
			env[vars[0]] = thing
			if !each(vars[1:]) {
				return false
			}
		}
		return true
	}
	return each(lits.Vars(c))
}

// sides: of a literal, the one that is meant first.
func sides(l api.Lit, flip bool) (side, other api.Term) {
	if flip {
		return l.R, l.L
	}
	return l.L, l.R
}

// replaced: the clause with the part at that place, which must be the one that is given, made another one.
func replaced(c api.Clause, at int, flip bool, place []int, part, by api.Term) (api.Clause, bool) {
	if at < 0 || at >= len(c) {
		return nil, false
	}
	side, _ := sides(c[at], flip)
	found, errno := term.At(side, place)
	put, _ := term.Put(side, place, by)
	made := slices.Clone(c)
	if flip {
		made[at].R = put
	} else {
		made[at].L = put
	}
	return made, errno == api.OK && term.Same(found, part)
}

func without(c api.Clause, at int) api.Clause { return slices.Concat(c[:at], c[at+1:]) }

// says: what a step says of its parents, as one that knows no order and no selection would tell it; nothing, if something does not fit.
func says(s api.Step, parentA, parentB api.Clause) (api.Clause, bool) {
	if slices.ContainsFunc(slices.Concat(s.SA, s.SB), func(b api.Bind) bool { return isTruth(b.T) }) {
		return nil, false
	}
	a, errnoA := lits.Apply(s.SA, parentA)
	b, errnoB := lits.Apply(s.SB, parentB)
	if s.Rule == api.RClean {
		return lits.Clean(parentA), len(lits.Clean(parentA)) < len(parentA)
	}
	if errnoA != api.OK || errnoB != api.OK || s.LitA < 0 || s.LitA >= len(a) {
		return nil, false
	}
	l := a[s.LitA]
	side, other := sides(l, s.FlipA)
	switch s.Rule {
	case api.REqRes:
		return without(a, s.LitA), l.Neg && term.Same(l.L, l.R)
	case api.REqFact:
		if s.LitB < 0 || s.LitB >= len(a) || s.LitA == s.LitB || l.Neg || a[s.LitB].Neg {
			return nil, false
		}
		sideB, otherB := sides(a[s.LitB], s.FlipB)
		return append(without(a, s.LitA), not(other, otherB)), term.Same(side, sideB)
	case api.RSup:
		made, fit := replaced(b, s.LitB, s.FlipB, s.Pos, side, other)
		return slices.Concat(made, without(a, s.LitA)), fit && !l.Neg
	case api.RDemod:
		if len(b) != 1 || b[0].Neg {
			return nil, false
		}
		from, to := sides(b[0], s.FlipB)
		return replaced(a, s.LitA, s.FlipA, s.Pos, from, to)
	}
	return nil, false
}

// wantFollows: each of the steps says what its clause is, of parents ahead of it, and each input is one of those.
func wantFollows(t *testing.T, steps []api.Step, l []Input) {
	t.Helper()
	for i, s := range steps {
		if s.Rule == api.RInput {
			if !slices.ContainsFunc(l, func(in Input) bool {
				return in.Name == s.Name && in.Index == s.Index && lits.Equal(lits.Normal(in.C), s.C)
			}) {
				t.Fatalf("%s is none of %s", sayStep(s), sayInputs(l))
			}
			continue
		}
		if s.A < 0 || s.A >= i || s.B < 0 || s.B >= i {
			t.Fatalf("%s is the step %d", sayStep(s), i)
		}
		whole, fit := says(s, steps[s.A].C, steps[s.B].C)
		if !fit || !lits.Equal(lits.Normal(whole), s.C) || lits.Right(s.C) != api.OK || !infer.Sorted(s.C) {
			t.Fatalf("%s of %s and %s says %s", sayStep(s), say(steps[s.A].C), say(steps[s.B].C), say(whole))
		}
	}
}

func kept(e *Engine) []api.Step {
	var steps []api.Step
	for _, r := range e.records {
		steps = append(steps, r.Step)
	}
	return steps
}

// P1804: each record says what its parents do, and a proof, too, by its own numbers, up to the empty clause, each step of which is needed.
func TestFollows(t *testing.T) {
	m := newMaker(185)
	records, proofs, longest := 0, 0, 0
	for range 1500 {
		l := m.problem(7, 3, 3)
		e := begun(t, m.sign(), m.strategy(), l)
		run(e, 40)
		wantFollows(t, kept(e), l)
		records += len(e.records)
		p := e.Proof()
		if (len(p) > 0) != (e.Status() == Proved) {
			t.Fatalf("status %d, a proof of %d steps", e.Status(), len(p))
		}
		if len(p) == 0 {
			continue
		}
		wantFollows(t, p, l)
		needed := map[int]int{len(p) - 1: 1}
		for i, s := range slices.Backward(p) {
			if needed[i] == 0 || len(s.C) == 0 != (i == len(p)-1) {
				t.Fatalf("the step %d of %s", i, saySteps(p))
			}
			if s.Rule != api.RInput {
				needed[s.A]++
			}
			if s.Rule == api.RSup || s.Rule == api.RDemod {
				needed[s.B]++
			}
		}
		proofs++
		longest = max(longest, len(p))
	}
	if records < 20000 || proofs < 200 || longest < 8 {
		t.Errorf("too few: %d, %d, %d", records, proofs, longest)
	}
}

// P1804: where all inputs hold in some interpretation nothing is proved, and all records hold there.
func TestSound(t *testing.T) {
	m := newMaker(186)
	counts := map[int]int{}
	records := 0
	for range 1200 {
		w := world{things: 1 + m.Intn(3), seed: m.Intn(1000)}
		var l []Input
		for range 2 + m.Intn(6) {
			if c := m.clause(3, 3); len(lits.Vars(c)) < 4 && w.holds(c) {
				l = append(l, Input{Name: "holds", Index: len(l), C: c})
			}
		}
		e := begun(t, m.sign(), m.strategy(), l)
		run(e, 40)
		counts[e.Status()]++
		for _, r := range e.records {
			if len(lits.Vars(r.C)) > 5 {
				continue
			}
			records++
			if !w.holds(r.C) {
				t.Fatalf("of %s comes %s, which does not hold", sayInputs(l), say(r.C))
			}
		}
	}
	if counts[Proved] > 0 || counts[Running] < 100 || counts[Saturated] < 100 || records < 10000 {
		t.Errorf("proved, or too few: %v, %d", counts, records)
	}
}

// P1804: variables are things: an equation of all things says nothing of truths.
func TestSoundSorts(t *testing.T) {
	for _, in := range []string{"X0=X1; @p; ~@q", "X0=a; @p(a); ~@q(a)", "X0=X1; f(X0)=f(X1); ~@q(X0); @p(X0)"} {
		for _, st := range strategies(2) {
			e := begun(t, kbo.Sign{}, st, inputs(t, in))
			run(e, 200)
			if e.Status() == Proved {
				t.Errorf("%s: %s", in, saySteps(e.Proof()))
			}
		}
	}
}

// propositional: a clause of atoms without terms, by numbers: the atom i is 2i, and 2i + 1 if it is Neg; of $true the last ones.
func propositional(literals []int, atoms int, flip func() bool) api.Clause {
	var c api.Clause
	for _, number := range literals {
		name := "$true"
		if number/2 < atoms {
			name = "@" + string(rune('a'+number/2))
		}
		l := api.Lit{Neg: number%2 == 1, L: fn(name), R: fn("$true")}
		if flip() {
			l.L, l.R = l.R, l.L
		}
		c = append(c, l)
	}
	return c
}

// satisfied: do all clauses, by the numbers of their literals, hold for some truths of the atoms?
func satisfied(clauses [][]int, atoms int) bool {
	for truths := range 1 << atoms {
		truths |= 1 << atoms // $true
		if !slices.ContainsFunc(clauses, func(c []int) bool {
			return !slices.ContainsFunc(c, func(number int) bool { return truths>>(number/2)&1 != number%2 })
		}) {
			return true
		}
	}
	return false
}

// wantDecided: proved, if nothing satisfies them, and else saturated.
func wantDecided(t *testing.T, g kbo.Sign, st Strategy, clauses [][]int, atoms int, flip func() bool) int {
	t.Helper()
	var l []Input
	for i, c := range clauses {
		l = append(l, Input{Index: i, C: propositional(c, atoms, flip)})
	}
	e := begun(t, g, st, l)
	run(e, 5000)
	want := Proved
	if satisfied(clauses, atoms) {
		want = Saturated
	}
	if e.Status() != want {
		t.Fatalf("%v %+v of %s: status %d, not %d", g, st, sayInputs(l), e.Status(), want)
	}
	return want
}

// P1805: of all sets of up to three clauses of two atoms, by all strategies.
func TestCompleteAll(t *testing.T) {
	var all [][]int
	for set := range 16 {
		var c []int
		for number := range 4 {
			if set>>number&1 == 1 {
				c = append(c, number)
			}
		}
		all = append(all, c)
	}
	never := func() bool { return false }
	counts := map[int]int{}
	for one := range all {
		for two := range one + 1 {
			for three := range two + 1 {
				for i, st := range strategies(1 + (one+two)%3) {
					g := []kbo.Sign{{}, sign("@b @a"), {Names: []string{"@a"}, Weights: []int{5}}}[(one+i)%3]
					counts[wantDecided(t, g, st, [][]int{all[one], all[two], all[three]}, 2, never)]++
				}
			}
		}
	}
	if counts[Proved] < 200 || counts[Saturated] < 1000 {
		t.Errorf("too few of a kind: %v", counts)
	}
}

// P1805: of more clauses and atoms by chance; literals may stand twice, be of $true, and have their sides the other way round.
func TestComplete(t *testing.T) {
	m := newMaker(187)
	counts := map[int]int{}
	for range 1500 {
		atoms := 2 + m.Intn(4)
		var clauses [][]int
		for range atoms + m.Intn(3*atoms) {
			var c []int
			for range 1 + m.Intn(3) {
				c = append(c, m.Intn(2*atoms))
				if m.Intn(12) == 0 {
					c = append(c, c[0], 2*atoms+m.Intn(2))
				}
			}
			clauses = append(clauses, c)
		}
		var g kbo.Sign
		for _, atom := range m.Perm(atoms)[:m.Intn(atoms+1)] {
			g.Names = append(g.Names, "@"+string(rune('a'+atom)))
			if m.Intn(2) == 0 {
				g.Weights = append(g.Weights, 1+m.Intn(4))
			}
		}
		counts[wantDecided(t, g, m.strategy(), clauses, atoms, func() bool { return m.Intn(8) == 0 })]++
	}
	if counts[Proved] < 300 || counts[Saturated] < 300 {
		t.Errorf("too few of a kind: %v", counts)
	}
}

// P1805: n + 1 things in n holes, one in each: of more literals and clauses.
func TestCompleteHoles(t *testing.T) {
	for holes, most := range map[int]int{1: 50, 2: 300, 3: 4000} {
		name := func(thing, hole int) api.Term { return fn(fmt.Sprint("@", thing, "in", hole)) }
		var l []Input
		for thing := range holes + 1 {
			var c api.Clause
			for hole := range holes {
				c = append(c, atom(name(thing, hole)))
				for other := range thing {
					l = append(l, Input{C: of(not(name(thing, hole), fn("$true")), not(name(other, hole), fn("$true")))})
				}
			}
			l = append(l, Input{C: c})
		}
		for _, st := range strategies(3) {
			e := begun(t, kbo.Sign{}, st, l)
			if run(e, most); e.Status() != Proved {
				t.Errorf("%d holes, %+v: status %d", holes, st, e.Status())
			}
			wantFollows(t, e.Proof(), l)
			e = begun(t, kbo.Sign{}, st, l[:len(l)-1])
			if run(e, most); e.Status() != Saturated {
				t.Errorf("%d holes without the last clause, %+v: status %d", holes, st, e.Status())
			}
		}
	}
}

// P3 of the whole: of equations and rules, too, what follows is found.
func TestFinds(t *testing.T) {
	group := "m(e,X0)=X0; m(i(X0),X0)=e; m(m(X0,X1),X2)=m(X0,m(X1,X2)); "
	for _, in := range []string{
		group + "m(a,i(a))!=e",
		group + "m(a,e)!=a",
		group + "i(i(a))!=a",
		group + "m(X0,X0)=e; m(a,b)!=m(b,a)",
		"@p(a); ~@p(X0) | @p(f(X0)); ~@p(f(f(f(a))))",
		"a=b; b=c; c=d; f(a,d)!=f(d,a)",
		"@man(s); ~@man(X0) | @mortal(X0); ~@mortal(s)",
		"@r(X0,f(X0)); ~@r(X0,X1) | @r(X1,X0); ~@r(X0,X1) | ~@r(X1,X2) | @r(X0,X2); ~@r(a,a)",
		"@p(a) | @p(b); a=b; ~@p(a)",
		"@p(X0) | @q(X0); ~@p(X0) | @q(f(X0)); ~@q(X0) | @p(X0); ~@q(f(X0)) | ~@p(X0)",
		"X0=a | X0=b; f(a)!=a; f(b)!=b; f(f(c))!=c",
	} {
		for _, st := range strategies(3) {
			e := begun(t, kbo.Sign{}, st, inputs(t, in))
			if run(e, 1500); e.Status() != Proved {
				t.Errorf("%+v of %s: status %d", st, in, e.Status())
			}
			wantFollows(t, e.Proof(), inputs(t, in))
		}
	}
}
