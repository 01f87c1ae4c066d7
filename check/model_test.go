package check

import (
	"fmt"
	"maps"
	"slices"
	"strings"
	"testing"

	"assize/api"
	"assize/infer"
	"assize/kbo"
	"assize/lits"
	"assize/multi"
	"assize/saturate"
	"assize/simplify"
)

// The chapter's words, one by one, and those of the layers below that they use, with no eye on time: none of the layers is asked.

func modelTruth(t api.Term) bool { return t.Fn == "$true" || strings.HasPrefix(t.Fn, "@") }

// modelTerm: how many parts, how deep; is it right, but for these?
func modelTerm(t api.Term) (size, depth int, shaped bool) {
	shaped = len(t.Fn) <= api.MaxName && len(t.Args) <= api.MaxArgs && t.Var >= 0 && t.Var < api.MaxVar && (t.Fn == "" && len(t.Args) == 0 || t.Fn != "" && t.Var == 0)
	size = 1
	for _, arg := range t.Args {
		s, d, ok := modelTerm(arg)
		size, depth, shaped = size+s, max(depth, d), shaped && ok
	}
	return size, depth + 1, shaped
}

func modelRight(c api.Clause) bool {
	all := 0
	for _, l := range c {
		for _, t := range []api.Term{l.L, l.R} {
			size, depth, shaped := modelTerm(t)
			if !shaped || depth > api.MaxDepth || size > api.MaxNodes {
				return false
			}
			all += size
		}
	}
	return len(c) <= api.MaxLits && all <= api.MaxNodes
}

func modelSorted(c api.Clause) bool {
	var within func(t api.Term) bool
	within = func(t api.Term) bool {
		return slices.ContainsFunc(t.Args, func(arg api.Term) bool { return modelTruth(arg) || within(arg) })
	}
	for _, l := range c {
		if modelTruth(l.L) != modelTruth(l.R) || within(l.L) || within(l.R) {
			return false
		}
	}
	return true
}

func modelGood(c api.Clause) bool { return modelRight(c) && modelSorted(c) }

// modelEach: the clause with each variable as change makes it.
func modelEach(c api.Clause, change func(number int) api.Term) api.Clause {
	var walk func(t api.Term) api.Term
	walk = func(t api.Term) api.Term {
		if t.Fn == "" {
			return change(t.Var)
		}
		made := api.Term{Fn: t.Fn}
		for _, arg := range t.Args {
			made.Args = append(made.Args, walk(arg))
		}
		return made
	}
	var made api.Clause
	for _, l := range c {
		made = append(made, api.Lit{Neg: l.Neg, L: walk(l.L), R: walk(l.R)})
	}
	return made
}

// modelInstance: of a right clause, if there is one.
func modelInstance(c api.Clause, s []api.Bind) (api.Clause, bool) {
	binds := map[int]api.Term{}
	last := -1
	for _, b := range s {
		size, depth, shaped := modelTerm(b.T)
		if b.Var <= last || b.Var >= api.MaxVar || !shaped || size > api.MaxNodes || depth > api.MaxDepth || text(b.T) == text(v(b.Var)) {
			return nil, false
		}
		last = b.Var
		binds[b.Var] = b.T
	}
	made := modelEach(c, func(number int) api.Term {
		if t, bound := binds[number]; bound {
			return t
		}
		return v(number)
	})
	return made, len(s) <= api.MaxNodes && modelRight(c) && modelRight(made)
}

// modelNormal: with the variables named as they are first met.
func modelNormal(c api.Clause) api.Clause {
	names := map[int]int{}
	return modelEach(c, func(number int) api.Term {
		if _, met := names[number]; !met {
			names[number] = len(names)
		}
		return v(names[number])
	})
}

// modelClean: what says the same is told by a text of its sides, in the order of their texts.
func modelClean(c api.Clause) api.Clause {
	met := map[string]bool{}
	var made api.Clause
	for _, l := range c {
		sides := []string{text(l.L), text(l.R)}
		slices.Sort(sides)
		key := fmt.Sprint(l.Neg, sides)
		if !met[key] && (!l.Neg || sides[0] != sides[1]) {
			made = append(made, l)
		}
		met[key] = true
	}
	return made
}

// modelPut: the term with by in the place of part, if that stands there.
func modelPut(t api.Term, place []int, part, by api.Term) (api.Term, bool) {
	if len(place) == 0 {
		return by, text(t) == text(part)
	}
	if place[0] < 0 || place[0] >= len(t.Args) {
		return t, false
	}
	made, fit := modelPut(t.Args[place[0]], place[1:], part, by)
	args := slices.Clone(t.Args)
	args[place[0]] = made
	return api.Term{Fn: t.Fn, Args: args}, fit
}

func modelSides(l api.Lit, flip bool) (api.Term, api.Term) {
	if flip {
		return l.R, l.L
	}
	return l.L, l.R
}

// modelRewrite: the clause with the part at the place of that literal's side made another one.
func modelRewrite(c api.Clause, at int, flip bool, place []int, part, by api.Term) (api.Clause, bool) {
	side, other := modelSides(c[at], flip)
	put, fit := modelPut(side, place, part, by)
	made := slices.Clone(c)
	if made[at].L, made[at].R = put, other; flip {
		made[at].L, made[at].R = other, put
	}
	return made, fit
}

func modelWithout(c api.Clause, at int) api.Clause { return slices.Delete(slices.Clone(c), at, at+1) }

// modelSays: what the step says, before it is looked at itself; false: nothing.
func modelSays(given []Given, proof []api.Step, i int) (api.Clause, bool) {
	s := proof[i]
	if slices.ContainsFunc(slices.Concat(s.SA, s.SB), func(b api.Bind) bool { return modelTruth(b.T) }) {
		return nil, false
	}
	if s.Rule == api.RInput {
		for _, g := range given {
			if g.Name == s.Name {
				if s.Index < 0 || s.Index >= len(g.L) {
					return nil, false
				}
				return g.L[s.Index], modelGood(g.L[s.Index])
			}
		}
		return nil, false
	}
	if s.A < 0 || s.A >= i || !modelGood(proof[s.A].C) {
		return nil, false
	}
	if s.Rule == api.RClean {
		return modelClean(proof[s.A].C), true
	}
	a, fit := modelInstance(proof[s.A].C, s.SA)
	if !fit || s.LitA < 0 || s.LitA >= len(a) {
		return nil, false
	}
	l := a[s.LitA]
	side, other := modelSides(l, s.FlipA)
	switch s.Rule {
	case api.REqRes:
		return modelWithout(a, s.LitA), l.Neg && text(l.L) == text(l.R)
	case api.REqFact:
		if s.LitB < 0 || s.LitB >= len(a) || s.LitA == s.LitB || l.Neg || a[s.LitB].Neg {
			return nil, false
		}
		sideB, otherB := modelSides(a[s.LitB], s.FlipB)
		return append(modelWithout(a, s.LitA), not(other, otherB)), text(side) == text(sideB)
	case api.RSup, api.RDemod:
		return modelPair(s, i, proof, a)
	}
	return nil, false
}

// modelPair: of the rules that have two parents.
func modelPair(s api.Step, i int, proof []api.Step, a api.Clause) (api.Clause, bool) {
	if s.B < 0 || s.B >= i || !modelGood(proof[s.B].C) {
		return nil, false
	}
	b, fit := modelInstance(proof[s.B].C, s.SB)
	if !fit {
		return nil, false
	}
	if s.Rule == api.RDemod {
		if len(b) != 1 || b[0].Neg {
			return nil, false
		}
		side, other := modelSides(b[0], s.FlipB)
		return modelRewrite(a, s.LitA, s.FlipA, s.Pos, side, other)
	}
	if s.LitB < 0 || s.LitB >= len(b) || a[s.LitA].Neg {
		return nil, false
	}
	side, other := modelSides(a[s.LitA], s.FlipA)
	made, fit := modelRewrite(b, s.LitB, s.FlipB, s.Pos, side, other)
	return append(made, modelWithout(a, s.LitA)...), fit
}

// modelStep: what the step says, as a text; none, if it says nothing.
func modelStep(given []Given, proof []api.Step, i int) string {
	c, fit := modelSays(given, proof, i)
	if !fit || !modelGood(c) {
		return "none"
	}
	return say(modelNormal(c))
}

// modelProof: Proof's answers.
func modelProof(given []Given, proof []api.Step) (int, api.Errno) {
	if len(proof) > api.MaxSteps {
		return 0, api.ErrBig
	}
	for i, s := range proof {
		if modelStep(given, proof, i) != say(s.C) {
			return i, api.ErrProof
		}
	}
	if len(proof) == 0 || len(proof[len(proof)-1].C) > 0 {
		return len(proof), api.ErrProof
	}
	return 0, api.OK
}

// wantModel: the last step says what the model tells; and does it say something?
func wantModel(t *testing.T, given []Given, proof []api.Step) bool {
	t.Helper()
	got, want := answer(t, given, proof), modelStep(given, proof, len(proof)-1)
	if got != want {
		t.Fatalf("%s\nsays %s, not %s", saySteps(proof), got, want)
	}
	return got != "none"
}

// places: of the sides of a clause, in all literals, and one that is not there.
func places(c api.Clause) [][]int {
	list := map[string][]int{"none": {1, 1, 1, 1}}
	var walk func(t api.Term, place []int)
	walk = func(t api.Term, place []int) {
		list[fmt.Sprint(place)] = place
		for i, arg := range t.Args {
			walk(arg, append(slices.Clone(place), i))
		}
	}
	for _, l := range c {
		walk(l.L, nil)
		walk(l.R, nil)
	}
	keys := slices.Sorted(maps.Keys(list))
	var sorted [][]int
	for _, key := range keys {
		sorted = append(sorted, list[key])
	}
	return sorted
}

// alike: a clause of so few terms that most have some in common.
func (m maker) alike(most int) api.Clause {
	var c api.Clause
	for range 1 + m.Intn(most) {
		l := yes(readWhole(m.pick("X0", "a", "f(a)", "f(X0)")), readWhole(m.pick("X0", "X1", "a", "b", "f(X1)")))
		if m.Intn(3) == 0 {
			l = yes(readWhole(m.pick("@p(a)", "@p(X0)", "@r")), readWhole(m.pick("$true", "$true", "@r", "@p(f(a))")))
		}
		l.Neg = m.Intn(3) == 0
		c = append(c, l)
	}
	return c
}

// P1901: all that steps of two clauses can speak of, literal by literal, side by side, place by place, against the model.
func TestModelAll(t *testing.T) {
	m := newMaker(191)
	counts, fits := map[int]int{}, map[int]int{}
	try := func(proof []api.Step) {
		rule := proof[len(proof)-1].Rule
		counts[rule]++
		if wantModel(t, nil, proof) {
			fits[rule]++
		}
	}
	sides := []bool{false, true}
	for range 1500 {
		a, b := m.alike(2), m.alike(1+m.Intn(2))
		s := api.Step{SA: m.binds(12), SB: m.binds(12)}
		one, two := places(a), places(b)
		for litA := -1; litA <= len(a); litA++ {
			for _, flipA := range sides {
				s.LitA, s.FlipA = litA, flipA
				for litB := -1; litB <= max(len(a), len(b)); litB++ {
					for _, flipB := range sides {
						s.LitB, s.FlipB = litB, flipB
						for _, place := range two {
							s.Rule, s.A, s.B, s.Pos = api.RSup, 0, 1, place
							try(append(told(a, b), s))
						}
						s.Rule, s.Pos = api.REqFact, nil
						try(append(told(a, b), s))
					}
				}
				for _, flipB := range sides {
					for _, place := range one {
						s.Rule, s.LitB, s.FlipB, s.Pos = api.RDemod, 0, flipB, place
						try(append(told(a, b), s))
					}
				}
				s.Rule, s.Pos = api.REqRes, nil
				try(append(told(a, b), s))
			}
		}
		s.Rule = api.RClean
		try(append(told(a, b), s))
	}
	for rule, least := range map[int]int{api.RSup: 400, api.REqRes: 80, api.REqFact: 100, api.RDemod: 200, api.RClean: 1000} {
		if fits[rule] < least || counts[rule] < fits[rule]+50 {
			t.Errorf("rule %d: too few: %d of %d", rule, fits[rule], counts[rule])
		}
	}
}

// found: clauses given by chance, and steps from them to others, by the program's own rules; no more than so many.
func (m maker) found(most int) ([]Given, []api.Step) {
	given := []Given{{Name: "one"}, {Name: "two"}, {Name: "one", L: readAll("@x; @y")}, {Name: ""}}
	var proof []api.Step
	for range 4 + m.Intn(4) {
		at := []int{0, 1, 3}[m.Intn(3)]
		c := m.clause(3, 3)
		proof = append(proof, api.Step{Rule: api.RInput, Name: given[at].Name, Index: len(given[at].L), C: modelNormal(c)})
		given[at].L = append(given[at].L, c)
	}
	for round := 0; round < 10*most && len(proof) < most; round++ {
		a, b := m.Intn(len(proof)), m.Intn(len(proof))
		steps := m.follow(proof, a, b)
		if len(steps) > 0 {
			s := steps[m.Intn(len(steps))]
			s.A = a
			if s.Rule == api.RSup {
				s.B = b
			}
			proof = append(proof, s)
		}
	}
	return given, proof
}

// follow: what follows of both, by a rule.
func (m maker) follow(proof []api.Step, a, b int) []api.Step {
	o := multi.Order{Path: m.Intn(2) == 0, G: kbo.Sign{Names: strings.Fields("a b c f g @p @q")}}
	var steps []api.Step
	if lits.Size(proof[a].C)+lits.Size(proof[b].C) > 60 {
		return nil
	}
	switch m.Intn(7) {
	case 0:
		steps, _ = infer.Resolve(o, m.Intn(2) == 0, proof[a].C)
	case 1:
		steps, _ = infer.Factor(o, false, proof[a].C)
	case 2, 6:
		var units []simplify.Unit
		for i, s := range proof {
			units = append(units, simplify.Unit{Id: i, C: s.C})
		}
		steps, _ = simplify.Rewrite(o, units, proof[a].C)
		return steps[:min(1, len(steps))]
	case 3:
		if s, changed := simplify.Clean(proof[a].C); changed {
			steps = append(steps, s)
		}
	default:
		steps, _ = infer.Super(o, m.Intn(2) == 0, proof[a].C, proof[b].C)
	}
	return steps
}

// bent: the step with something of it changed.
func (m maker) bent(s api.Step, steps int) api.Step {
	s.Pos = slices.Clone(s.Pos)
	number := func(n int) int { return []int{n - 1, n + 1, -1, m.Intn(steps), 1 << 40}[m.Intn(5)] }
	switch m.Intn(13) {
	case 0:
		s.Rule = m.Intn(9) - 1
	case 1:
		s.Name = m.pick("", "one", "two", "three", "oneone")
	case 2:
		s.Index = number(s.Index)
	case 3:
		s.A = number(s.A)
	case 4:
		s.B = number(s.B)
	case 5:
		s.LitA = number(s.LitA)
	case 6:
		s.LitB = number(s.LitB)
	case 7:
		s.FlipA = !s.FlipA
	case 8:
		s.FlipB = !s.FlipB
	case 9:
		if s.Pos = append(s.Pos, m.Intn(2)); m.Intn(2) == 0 {
			s.Pos = s.Pos[1:]
		}
	case 10:
		s.SA = m.binds(3)
	case 11:
		s.SB = m.binds(3)
	case 12:
		s.C = m.bentClause(s.C)
	}
	return s
}

func (m maker) bentClause(c api.Clause) api.Clause {
	made := append(slices.Clone(c), m.literal(2))
	switch at := m.Intn(len(made)); m.Intn(6) {
	case 0:
		return made[:at]
	case 1:
		made[at].Neg = !made[at].Neg
	case 2:
		made[at].L, made[at].R = made[at].R, made[at].L
	case 3:
		slices.Reverse(made)
	case 4:
		return modelEach(c, func(number int) api.Term { return v(number + m.Intn(2)) })
	}
	return made
}

// P1901, P1902: of derivations that the program's own rules make each step says its clause; and of those where something is changed the model's steps.
func TestModelBent(t *testing.T) {
	m := newMaker(192)
	rules, bents := map[int]int{}, map[bool]int{}
	for range 250 {
		given, proof := m.found(25)
		for i, s := range proof {
			c, errno := Step(given, proof, i)
			if errno != api.OK || say(c) != say(s.C) {
				t.Fatalf("of %s\n%s\n%d says %s, error %d", sayGiven(given), saySteps(proof), i, say(c), errno)
			}
			rules[s.Rule]++
		}
		for range 30 {
			at := m.Intn(len(proof))
			other := slices.Clone(proof)
			other[at] = m.bent(other[at], len(proof))
			bents[wantModel(t, given, other[:at+1])]++
			at, errno := Proof(given, other)
			if want, wantErrno := modelProof(given, other); at != want || errno != wantErrno {
				t.Fatalf("of %s\n%s\n%d, %d, not %d, %d", sayGiven(given), saySteps(other), at, errno, want, wantErrno)
			}
		}
	}
	for rule, least := range map[int]int{api.RInput: 1000, api.RSup: 500, api.REqRes: 200, api.REqFact: 200, api.RDemod: 100, api.RClean: 300} {
		if rules[rule] < least {
			t.Errorf("rule %d: too few: %d", rule, rules[rule])
		}
	}
	if bents[true] < 2000 || bents[false] < 2000 {
		t.Errorf("too few of a kind: %v", bents)
	}
}

// refutation: what a search finds of the clauses, if it does.
func refutation(t *testing.T, given []Given, st saturate.Strategy, steps int) []api.Step {
	t.Helper()
	var l []saturate.Input
	for _, g := range given {
		for i, c := range g.L {
			l = append(l, saturate.Input{Name: g.Name, Index: i, C: c})
		}
	}
	e, errno := saturate.New(kbo.Sign{}, st, api.MaxSteps, 1000000, l)
	if errno != api.OK {
		t.Fatalf("%s: %d", sayGiven(given), errno)
	}
	for range steps {
		e.Step()
	}
	return e.Proof()
}

// P1902: the proofs that searches find are OK; where something is changed, as the model tells.
func TestModelProofs(t *testing.T) {
	m := newMaker(193)
	proofs, longest, still := 0, 0, 0
	for range 1200 {
		given := []Given{{Name: "one"}, {Name: "two"}}
		for range 3 + m.Intn(5) {
			g := &given[m.Intn(2)]
			g.L = append(g.L, m.clause(3, 3))
		}
		proof := refutation(t, given, saturate.Strategy{Path: m.Intn(2) == 0, Sel: m.Intn(2) == 0, Ratio: 1 + m.Intn(3)}, 40)
		if len(proof) == 0 {
			continue
		}
		wantProof(t, sayGiven(given)+"\n"+saySteps(proof), given, proof, 0, api.OK)
		proofs, longest = proofs+1, max(longest, len(proof))
		wantProof(t, "without the last step", given, proof[:len(proof)-1], len(proof)-1, api.ErrProof)
		for range 20 {
			at := m.Intn(len(proof))
			other := slices.Clone(proof)
			other[at] = m.bent(other[at], len(proof))
			want, wantErrno := modelProof(given, other)
			wantProof(t, sayGiven(given)+"\n"+saySteps(other), given, other, want, wantErrno)
			if wantErrno == api.OK {
				still++
			}
		}
	}
	if proofs < 200 || longest < 8 || still < 200 {
		t.Errorf("too few: %d, %d, %d", proofs, longest, still)
	}
}
