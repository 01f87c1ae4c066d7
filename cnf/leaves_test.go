package cnf

import (
	"slices"
	"testing"

	"assize/api"
)

// roomyTerm: the term in new memory, its lists with spare room with something in it.
func roomyTerm(t api.Term) api.Term {
	args := make([]api.Term, 0, len(t.Args)+2)
	for _, arg := range t.Args {
		args = append(args, roomyTerm(arg))
	}
	t.Args = append(args, fn("spare"), fn("spare"))[:len(args)]
	return t
}

func roomy(f api.Formula) api.Formula {
	f.L, f.R = roomyTerm(f.L), roomyTerm(f.R)
	kids := make([]api.Formula, 0, len(f.Kids)+2)
	for _, kid := range f.Kids {
		kids = append(kids, roomy(kid))
	}
	f.Kids = append(kids, pred("spare"), pred("spare"))[:len(kids)]
	return f
}

func roomyClauses(list []api.Clause) []api.Clause {
	out := make([]api.Clause, 0, len(list)+1)
	for _, c := range list {
		d := make(api.Clause, 0, len(c)+1)
		for _, l := range c {
			d = append(d, api.Lit{Neg: l.Neg, L: roomyTerm(l.L), R: roomyTerm(l.R)})
		}
		out = append(out, append(d, api.Lit{L: fn("spare")})[:len(d)])
	}
	return append(out, api.Clause{{L: fn("spare")}})[:len(out)]
}

// wholeTerm: all that the term's lists have, their spare room too, as a text.
func wholeTerm(t api.Term) string {
	text := t.Fn + "("
	for _, arg := range t.Args[:cap(t.Args)] {
		text += wholeTerm(arg) + ","
	}
	return text + ")"
}

func whole(f api.Formula) string {
	text := f.Name + " " + wholeTerm(f.L) + wholeTerm(f.R) + "{"
	for _, kid := range f.Kids[:cap(f.Kids)] {
		text += whole(kid)
	}
	return text + "}"
}

func wholeClauses(list []api.Clause) string {
	text := ""
	for _, c := range list[:cap(list)] {
		for _, l := range c[:cap(c)] {
			text += wholeTerm(l.L) + wholeTerm(l.R)
		}
		text += ";"
	}
	return text
}

// alone: no two lists of the clauses share memory, spare room too.
func alone(t *testing.T, list []api.Clause) {
	t.Helper()
	seen := map[any]bool{}
	once := func(at any) {
		if seen[at] {
			t.Fatalf("%s shares memory", text(list))
		}
		seen[at] = true
	}
	var term func(one api.Term)
	term = func(one api.Term) {
		for i := range one.Args[:cap(one.Args)] {
			at := &one.Args[:cap(one.Args)][i]
			once(at)
			term(*at)
		}
	}
	for _, c := range list[:cap(list)] {
		for k := range c[:cap(c)] {
			at := &c[:cap(c)][k]
			once(at)
			term(at.L)
			term(at.R)
		}
	}
}

// spoilTerm: writes into all that the term has, spare room too.
func spoilTerm(t *api.Term) {
	for i := range t.Args[:cap(t.Args)] {
		spoilTerm(&t.Args[:cap(t.Args)][i])
	}
	*t = fn("spoilt")
}

func spoil(list []api.Clause) {
	for i, c := range list[:cap(list)] {
		for k := range c[:cap(c)] {
			l := &c[:cap(c)][k]
			spoilTerm(&l.L)
			spoilTerm(&l.R)
			l.Neg = !l.Neg
		}
		list[:cap(list)][i] = nil
	}
}

func spoilFormula(f *api.Formula) {
	spoilTerm(&f.L)
	spoilTerm(&f.R)
	for i := range f.Kids[:cap(f.Kids)] {
		spoilFormula(&f.Kids[:cap(f.Kids)][i])
	}
	*f = pred("spoilt")
}

// leavesFormula: rules 4 and 5 of Clauses.
func leavesFormula(t *testing.T, f api.Formula) {
	t.Helper()
	f = roomy(f)
	before := whole(f)
	got, err := Clauses(f, 1)
	want := text(got)
	alone(t, got)
	spoil(got)
	if whole(f) != before {
		t.Fatalf("%s was changed", shown(f))
	}
	again, same := Clauses(f, 1)
	if text(again) != want || same != err {
		t.Fatalf("%s: another answer", shown(f))
	}
	spoilFormula(&f)
	if text(again) != want {
		t.Fatal("the answer is shared")
	}
}

// leavesClauses: rules 4 and 5 of Tagged.
func leavesClauses(t *testing.T, list []api.Clause, from, to int) {
	t.Helper()
	list = roomyClauses(list)
	before := wholeClauses(list)
	got, err := Tagged(list, from, to)
	want := text(got)
	alone(t, got)
	spoil(got)
	if wholeClauses(list) != before {
		t.Fatalf("%s was changed", text(list))
	}
	again, same := Tagged(list, from, to)
	if text(again) != want || same != err {
		t.Fatalf("%s: another answer", text(list))
	}
	spoil(list)
	if text(again) != want {
		t.Fatal("the answer is shared")
	}
}

// Rules 4 and 5: what is handed in is not changed, its spare room neither; what is handed out shares no memory; asked twice, the answer is one.
func TestLeaves(t *testing.T) {
	m := newMaker(156, append(allKinds(), api.FEx)...)
	for range 500 {
		f := m.formula(1+m.Intn(5), nil)
		leavesFormula(t, f)
		list, _ := Clauses(f, 1)
		leavesClauses(t, list, 1, 2)
		leavesClauses(t, list, 1, 1)
		leavesClauses(t, list, 0, 2)
	}
	skolems := of(api.FAll, "X", of(api.FEx, "Y", and(pred("p", fn("X"), fn("Y"), fn("Y")), pred("q", fn("Y")))))
	for _, f := range []api.Formula{yes(), no(), {}, pred("p", fn("a")), pred("p", fn("X")), all("p", 401), or(all("p", 5), all("q", 5)), skolems, or(skolems, skolems)} {
		leavesFormula(t, f)
	}
	leavesClauses(t, []api.Clause{{{L: x(-1)}}}, 0, 1)
	leavesClauses(t, slices.Repeat(clauseOf("$s1_0"), 3), 0, 1)
}
