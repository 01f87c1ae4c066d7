package check

import (
	"fmt"
	"slices"
	"sync"
	"testing"

	"assize/api"
)

// roomy: the list in new memory, with spare room that has something in it.
func roomy[T any](l []T, each func(T) T, spare T) []T {
	made := []T{}
	for _, x := range l {
		made = append(made, each(x))
	}
	return append(made, spare, spare)[:len(l)]
}

func roomyTerm(t api.Term) api.Term {
	t.Args = roomy(t.Args, roomyTerm, fn("spare"))
	return t
}

func roomyLit(l api.Lit) api.Lit { return api.Lit{Neg: l.Neg, L: roomyTerm(l.L), R: roomyTerm(l.R)} }

func roomyClause(c api.Clause) api.Clause { return roomy(c, roomyLit, yes(fn("spare"), fn("spare"))) }

func roomyBind(b api.Bind) api.Bind { return api.Bind{Var: b.Var, T: roomyTerm(b.T)} }

func roomyStep(s api.Step) api.Step {
	s.Pos = roomy(s.Pos, func(n int) int { return n }, -7)
	s.SA, s.SB = roomy(s.SA, roomyBind, api.Bind{Var: -7}), roomy(s.SB, roomyBind, api.Bind{Var: -7})
	s.C = roomyClause(s.C)
	return s
}

func roomyGiven(g Given) Given { return Given{g.Name, roomy(g.L, roomyClause, read("@spare"))} }

func roomyFormula(f api.Formula) api.Formula {
	f.L, f.R, f.Kids = roomyTerm(f.L), roomyTerm(f.R), roomy(f.Kids, roomyFormula, api.Formula{Name: "spare"})
	return f
}

func roomyNamed(n Named) Named { return Named{n.Name, roomyFormula(n.F)} }

// whole: all that a list has, its spare room too, as a text.
func whole[T any](l []T, each func(T) string) string {
	out := fmt.Sprint(len(l), "[")
	for _, x := range l[:cap(l)] {
		out += each(x) + ","
	}
	return out + "]"
}

func wholeTerm(t api.Term) string { return fmt.Sprint(t.Var, t.Fn) + whole(t.Args, wholeTerm) }

func wholeLit(l api.Lit) string { return fmt.Sprint(l.Neg) + wholeTerm(l.L) + wholeTerm(l.R) }

func wholeClause(c api.Clause) string { return whole(c, wholeLit) }

func wholeBind(b api.Bind) string { return fmt.Sprint(b.Var) + wholeTerm(b.T) }

func wholeStep(s api.Step) string {
	return sayStep(s) + whole(s.Pos, func(n int) string { return fmt.Sprint(n) }) + whole(s.SA, wholeBind) + whole(s.SB, wholeBind) + wholeClause(s.C)
}

func wholeGiven(g Given) string { return g.Name + whole(g.L, wholeClause) }

func wholeFormula(f api.Formula) string {
	return fmt.Sprint(f.Kind, f.Name) + wholeTerm(f.L) + wholeTerm(f.R) + whole(f.Kids, wholeFormula)
}

func wholeNamed(n Named) string { return n.Name + wholeFormula(n.F) }

var bad = fn("spoilt") // what is written over all that is handed out

// spoilTerm, spoilClause, spoilGiven: write over all lists, their spare room too, and tell whether one of them was written over before.
func spoilTerm(t api.Term) (twice bool) {
	all := t.Args[:cap(t.Args)]
	for i := range all {
		twice = all[i].Fn == bad.Fn || spoilTerm(all[i]) || twice
		all[i] = bad
	}
	return twice
}

func spoilClause(c api.Clause) (twice bool) {
	all := c[:cap(c)]
	for i, l := range all {
		left, right := spoilTerm(l.L), spoilTerm(l.R)
		twice = twice || l.L.Fn == bad.Fn || left || right
		all[i] = yes(bad, bad)
	}
	return twice
}

func spoilGiven(l []Given) (twice bool) {
	for _, g := range l[:cap(l)] {
		all := g.L[:cap(g.L)]
		for i, c := range all {
			spoilt := spoilClause(c)
			twice = twice || spoilt || len(c) == 1 && c[0].L.Fn == "spoilt list"
			all[i] = of(yes(fn("spoilt list"), bad))
		}
	}
	clear(l[:cap(l)])
	return twice
}

// Rules 4 and 5: what is handed in is not changed, what is handed out is new memory, whatever is written into it.
func TestStepApart(t *testing.T) {
	m := newMaker(198)
	asked := map[int]int{}
	for range 150 {
		plain, steps := m.found(20)
		given, proof := roomy(plain, roomyGiven, Given{Name: "spare"}), roomy(steps, roomyStep, api.Step{Name: "spare"})
		before := whole(given, wholeGiven) + whole(proof, wholeStep)
		for i, s := range proof {
			one, errno := Step(given, proof, i)
			two, _ := Step(given, proof, i)
			if errno != api.OK || spoilClause(one) || spoilClause(two) || len(two) == 0 != (len(s.C) == 0) {
				t.Fatalf("%s: %d, or lists of one answer share memory", sayStep(s), errno)
			}
			if again := answer(t, given, proof[:i+1]); again != say(s.C) {
				t.Fatalf("%s says %s then", sayStep(s), again)
			}
			asked[s.Rule]++
		}
		Proof(given, proof)
		if after := whole(given, wholeGiven) + whole(proof, wholeStep); after != before {
			t.Fatalf("what was handed in is changed: %s, not %s", after, before)
		}
	}
	for rule := api.RInput; rule <= api.RClean; rule++ {
		if asked[rule] < 20 {
			t.Errorf("rule %d: only %d", rule, asked[rule])
		}
	}
}

// Rules 4 and 5: the same of problems.
func TestProblemApart(t *testing.T) {
	m := newMaker(199)
	for range 300 {
		plain, plainGoal := m.problem()
		l, goal := roomy(plain, roomyNamed, Named{Name: "spare"}), roomyFormula(plainGoal)
		before := whole(l, wholeNamed) + wholeFormula(goal)
		one, errno := Problem(l, goal)
		two, _ := Problem(l, goal)
		want := sayGiven(one)
		if spoilGiven(one) || errno != api.OK {
			t.Fatalf("%s: %d, or lists of one answer share memory", sayNamed(l), errno)
		}
		Verify(l, goal, nil)
		if after := whole(l, wholeNamed) + wholeFormula(goal); after != before || sayGiven(two) != want {
			t.Fatalf("what was handed in is changed: %s, not %s", after, before)
		}
	}
	l, goal := roomy(axioms("a: p", "b: q"), roomyNamed, Named{Name: "spare"}), formula("p")
	Problem(l, goal)
	Verify(l[:1], goal, nil)
	wantText(t, "behind the axioms", l[:3][2].Name+l[1].Name, "spareb")
}

// Rule 5: called side by side, each answers as it does alone.
func TestSideBySide(t *testing.T) {
	m := newMaker(200)
	given, proof := m.found(25)
	proof = append(proof, m.bent(proof[len(proof)-1], len(proof)))
	at, errno := Proof(given, proof)
	answers := func() string {
		out := ""
		for i := range proof {
			c, errno := Step(given, proof, i)
			out += fmt.Sprint(say(c), errno)
		}
		return out
	}
	want := answers()
	var all sync.WaitGroup
	for range 8 {
		all.Go(func() {
			for range 20 {
				if gotAt, gotErrno := Proof(given, proof); answers() != want || gotAt != at || gotErrno != errno {
					t.Error("side by side something else")
				}
			}
		})
	}
	all.Wait()
}

// Rule 3: a list without an element may be nil or empty.
func TestNoList(t *testing.T) {
	given, proof := example()
	for i := range proof {
		proof[i].Pos, proof[i].SA, proof[i].SB = []int{}, []api.Bind{}, []api.Bind{}
		proof[i].C = slices.Concat(api.Clause{}, proof[i].C)
		for k := range proof[i].C {
			proof[i].C[k].R.Args = []api.Term{}
		}
	}
	proof[3].C = api.Clause{}
	wantProof(t, "empty lists", append([]Given{}, given...), proof, 0, api.OK)
	wantProof(t, "an empty list of steps", []Given{}, []api.Step{}, 0, api.ErrProof)
	if got, errno := Problem([]Named{}, formula("$true")); errno != api.OK || sayGiven(got) != "$goal: 0" {
		t.Errorf("%s, %d", sayGiven(got), errno)
	}
}
