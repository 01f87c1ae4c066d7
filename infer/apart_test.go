package infer

import (
	"fmt"
	"testing"

	"assize/api"
)

// roomyTerm: the term in new memory, its lists with spare room with something in it.
func roomyTerm(t api.Term) api.Term {
	args := []api.Term{}
	for _, arg := range t.Args {
		args = append(args, roomyTerm(arg))
	}
	t.Args = append(args, fn("spare"), fn("spare"))[:len(args)]
	return t
}

func roomy(c api.Clause) api.Clause {
	var made api.Clause
	for _, l := range c {
		made = append(made, api.Lit{Neg: l.Neg, L: roomyTerm(l.L), R: roomyTerm(l.R)})
	}
	return append(made, yes(fn("spare"), fn("spare")))[:len(made)]
}

// whole: all that lists have, their spare room too, as a text.
func whole(t api.Term) string {
	out := fmt.Sprint(t.Var, t.Fn, len(t.Args), "(")
	for _, arg := range t.Args[:cap(t.Args)] {
		out += whole(arg) + ","
	}
	return out + ")"
}

func wholeClause(c api.Clause) string {
	out := fmt.Sprint(len(c))
	for _, l := range c[:cap(c)] {
		out += fmt.Sprint(l.Neg) + whole(l.L) + whole(l.R)
	}
	return out
}

// spoil: writes over all lists of the steps, their spare room too, and tells whether one of them was written over before.
func spoil(l []api.Step) (twice bool) {
	bad := fn("spoilt")
	var spoilTerm func(t api.Term)
	spoilTerm = func(t api.Term) {
		all := t.Args[:cap(t.Args)]
		for i := range all {
			twice = twice || all[i].Fn == bad.Fn
			spoilTerm(all[i])
			all[i] = bad
		}
	}
	spoilBinds := func(s []api.Bind) {
		all := s[:cap(s)]
		for i := range all {
			twice = twice || all[i].T.Fn == bad.Fn
			spoilTerm(all[i].T)
			all[i] = api.Bind{Var: -7, T: bad}
		}
	}
	for _, s := range l {
		place := s.Pos[:cap(s.Pos)]
		for i := range place {
			twice = twice || place[i] == -7
			place[i] = -7
		}
		spoilBinds(s.SA)
		spoilBinds(s.SB)
		c := s.C[:cap(s.C)]
		for i := range c {
			twice = twice || c[i].L.Fn == bad.Fn
			spoilTerm(c[i].L)
			spoilTerm(c[i].R)
			c[i] = yes(bad, bad)
		}
	}
	clear(l[:cap(l)])
	return twice
}

// Rules 4 and 5: what is handed in is not changed, its spare room neither; what is handed out shares no memory; asked twice, the answer is one.
func TestApart(t *testing.T) {
	m := newMaker(167)
	steps := 0
	for range 3000 {
		o, sel, from, into := m.order(), m.Intn(2) == 0, roomy(m.clause(3, 3)), roomy(m.clause(3, 4))
		names := append(o.G.Names, "spare")
		before := wholeClause(from) + wholeClause(into) + fmt.Sprint(names, o.G)
		ask := func() [][]api.Step {
			s, _ := Super(o, sel, from, into)
			own, _ := Super(o, sel, into, into)
			r, _ := Resolve(o, sel, into)
			f, _ := Factor(o, sel, into)
			return [][]api.Step{s, own, r, f}
		}
		first := ask()
		text := saySteps(first[0]) + saySteps(first[1]) + saySteps(first[2]) + saySteps(first[3])
		for _, l := range first {
			steps += len(l)
			if spoil(l) {
				t.Fatalf("lists of one answer share memory: %s", text)
			}
		}
		if after := wholeClause(from) + wholeClause(into) + fmt.Sprint(names, o.G); after != before {
			t.Fatalf("what was handed in is changed: %s, not %s", after, before)
		}
		Sorted(into)
		Selected(true, into)
		again := ask()
		if got := saySteps(again[0]) + saySteps(again[1]) + saySteps(again[2]) + saySteps(again[3]); got != text {
			t.Fatalf("asked again: %s, not %s", got, text)
		}
	}
	if steps < 2000 {
		t.Errorf("only %d steps", steps)
	}
}
