package saturate

import (
	"fmt"
	"slices"
	"sync"
	"testing"

	"assize/api"
	"assize/kbo"
)

// roomyTerm: the term in new memory, its lists with spare room with something in it.
func roomyTerm(t api.Term) api.Term {
	args := []api.Term{}
	for _, arg := range t.Args {
		args = append(args, roomyTerm(arg))
	}
	t.Args = append(args, fn("spare"), fn("spare"))[:len(args)]
	return t
}

func roomy(l []Input) []Input {
	var made []Input
	for _, in := range l {
		var c api.Clause
		for _, l := range in.C {
			c = append(c, api.Lit{Neg: l.Neg, L: roomyTerm(l.L), R: roomyTerm(l.R)})
		}
		in.C = append(c, yes(fn("spare"), fn("spare")))[:len(c)]
		made = append(made, in)
	}
	return append(made, Input{Name: "spare"})[:len(made)]
}

// roomySign: with names and weights behind those that it has.
func roomySign(g kbo.Sign) kbo.Sign {
	names, weights := append(slices.Clone(g.Names), "spare"), append(slices.Clone(g.Weights), 7)
	return kbo.Sign{Names: names[:len(g.Names)], Weights: weights[:len(g.Weights)]}
}

// whole: all that lists have, their spare room too, as a text.
func whole(t api.Term) string {
	out := fmt.Sprint(t.Var, t.Fn, len(t.Args), "(")
	for _, arg := range t.Args[:cap(t.Args)] {
		out += whole(arg) + ","
	}
	return out + ")"
}

func wholeInputs(l []Input) string {
	out := fmt.Sprint(len(l))
	for _, in := range l[:cap(l)] {
		out += fmt.Sprint(in.Name, in.Index, len(in.C))
		for _, l := range in.C[:cap(in.C)] {
			out += fmt.Sprint(l.Neg) + whole(l.L) + whole(l.R)
		}
	}
	return out
}

func wholeSign(g kbo.Sign) string {
	return fmt.Sprint(len(g.Names), g.Names[:cap(g.Names)], len(g.Weights), g.Weights[:cap(g.Weights)])
}

var bad = fn("spoilt") // what is written over all that is handed out

// spoilTerm, spoilClause, spoilBinds: write over all lists, their spare room too, and tell whether one of them was written over before.
func spoilTerm(t api.Term) (twice bool) {
	all := t.Args[:cap(t.Args)]
	for i := range all {
		twice = all[i].Fn == bad.Fn || spoilTerm(all[i]) || twice
		all[i] = bad
	}
	return twice
}

func spoilClause(c api.Clause) (twice bool) {
	all := c[:cap(c)]
	for i, l := range all {
		left, right := spoilTerm(l.L), spoilTerm(l.R)
		twice = twice || l.L.Fn == bad.Fn || left || right
		all[i] = yes(bad, bad)
	}
	return twice
}

func spoilBinds(s []api.Bind) (twice bool) {
	all := s[:cap(s)]
	for i, b := range all {
		within := spoilTerm(b.T)
		twice = twice || b.T.Fn == bad.Fn || within
		all[i] = api.Bind{Var: -7, T: bad}
	}
	return twice
}

func spoilSteps(l []api.Step) (twice bool) {
	for _, s := range l {
		place := s.Pos[:cap(s.Pos)]
		for i := range place {
			twice = twice || place[i] == -7
			place[i] = -7
		}
		sa, sb, c := spoilBinds(s.SA), spoilBinds(s.SB), spoilClause(s.C)
		twice = twice || sa || sb || c
	}
	clear(l[:cap(l)])
	return twice
}

func spoilClauses(l []api.Clause) (twice bool) {
	for _, c := range l {
		spoilt := spoilClause(c)
		twice = twice || spoilt
	}
	clear(l[:cap(l)])
	return twice
}

// spoilInputs: writes over what was handed in.
func spoilInputs(l []Input, g kbo.Sign) {
	for _, in := range l {
		spoilClause(in.C)
	}
	clear(l[:cap(l)])
	names, weights := g.Names[:cap(g.Names)], g.Weights[:cap(g.Weights)]
	for i := range names {
		names[i] = "spoilt"
	}
	for i := range weights {
		weights[i] = -7
	}
}

// Rules 4 and 5: what is handed in is not changed and not kept; what is handed out is new memory, whatever is written into it; what is not asked for is as what is.
func TestApart(t *testing.T) {
	m := newMaker(189)
	proofs, places := 0, 0
	for round := range 300 {
		g, st, l := m.sign(), m.strategy(), m.problem(7, 3, 3)
		if round%10 == 0 {
			l = append(l, inputs(t, "f(X0)=X0; f(X0)=a | @q(X0,b); @p(f(f(a))); ~@q(f(b),f(b)); ~@p(a)")...)
		}
		plain := begun(t, g, st, l)
		handed, names := roomy(l), roomySign(g)
		before := wholeInputs(handed) + wholeSign(names)
		e := begun(t, names, st, handed)
		run(e, 5)
		if after := wholeInputs(handed) + wholeSign(names); after != before {
			t.Fatalf("what was handed in is changed: %s, not %s", after, before)
		}
		spoilInputs(handed, names)
		for range 35 {
			active, passive, proof := e.Active(), e.Passive(), e.Proof()
			proofs += len(proof)
			for _, s := range proof {
				places += len(s.Pos)
			}
			one, two, three := spoilClauses(active), spoilClauses(passive), spoilSteps(proof)
			if one || two || three {
				t.Fatalf("lists of one answer share memory: %s", looks(e))
			}
			e.Step()
		}
		run(plain, 40)
		if looks(e) != looks(plain) || saySteps(kept(e)) != saySteps(kept(plain)) {
			t.Fatalf("%s, not %s", looks(e), looks(plain))
		}
	}
	if proofs < 500 || places < 50 {
		t.Errorf("only %d, %d", proofs, places)
	}
}

// Rule 5: engines share nothing: those that go on in turn, or side by side, find what one alone does.
func TestSideBySide(t *testing.T) {
	l := inputs(t, "m(e,X0)=X0; m(i(X0),X0)=e; m(m(X0,X1),X2)=m(X0,m(X1,X2)); m(a,i(a))!=e")
	g := sign("e a m i")
	alone := begun(t, g, Strategy{Ratio: 3}, l)
	run(alone, 500)
	want := looks(alone)
	if alone.Status() != Proved {
		t.Fatal(want)
	}
	one, two := begun(t, g, Strategy{Ratio: 3}, l), begun(t, g, Strategy{Ratio: 3}, l)
	for range 500 {
		one.Step()
		two.Step()
		two.Step()
	}
	if looks(one) != want || looks(two) != want {
		t.Errorf("in turn: %s, %s, not %s", looks(one), looks(two), want)
	}
	var all sync.WaitGroup
	for range 8 {
		all.Go(func() {
			e, _ := New(g, Strategy{Ratio: 3}, api.MaxSteps, mostNodes, l)
			run(e, 500)
			if looks(e) != want {
				t.Error("side by side something else")
			}
		})
	}
	all.Wait()
}
