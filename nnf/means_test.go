package nnf

import (
	"slices"
	"testing"

	"assize/api"
)

// means: both hold in the same interpretations, whatever things their free variables are.
func means(t *testing.T, f, g api.Formula, worlds int) {
	t.Helper()
	for seed := range worlds {
		w := world{things: 1 + seed%3, seed: seed}
		env := map[string]int{"X": seed % w.things, "Y": seed / 2 % w.things, "Z": seed / 3 % w.things}
		if w.holds(f, env) != w.holds(g, env) {
			t.Fatalf("%s and %s in world %d", shown(f), shown(g), seed)
		}
	}
}

// again: the call leaves as it is what it told.
func again(t *testing.T, do call, told api.Formula) {
	t.Helper()
	gives(t, do, told, told)
}

// turn: what the call answers, which is no error; it means the same, and is left as it is.
func turn(t *testing.T, do call, f api.Formula, worlds int) api.Formula {
	t.Helper()
	g, err := do(f)
	if err != api.OK {
		t.Fatalf("%s: error %d", shown(f), int(err))
	}
	means(t, f, g, worlds)
	again(t, do, g)
	return g
}

// P1403: all small formulas.
func TestMeansAll(t *testing.T) {
	list := grown(allKinds(), []api.Formula{no(), pred("p"), pred("q", fn("X")), eq(fn("X"), fn("Y"))})
	for i, f := range list {
		if i%3 == 0 {
			f = not(f)
		}
		turn(t, Mini, turn(t, Nnf, f, 4), 4)
	}
}

// P1403: formulas by chance; what comes of both calls has the form of both.
func TestMeansChance(t *testing.T) {
	m := newMaker(143, append(allKinds(), api.FAll, api.FEx)...)
	count, differ := 0, 0
	for i := range 4000 {
		f := m.formula(2+m.Intn(5), 3+i%30)
		if great(f) > 2000 {
			continue
		}
		g := turn(t, Nnf, f, 12)
		h := turn(t, Mini, g, 12)
		again(t, Nnf, h)
		if !isNormal(h, true) || !isInside(h) {
			t.Fatalf("%s has not both forms", shown(h))
		}
		count++
		if (world{things: 2, seed: 1}).holds(f, map[string]int{"X": 0, "Y": 1, "Z": 0}) {
			differ++
		}
	}
	if count < 2000 || differ < 500 || count-differ < 500 {
		t.Errorf("only %d formulas, of which %d hold", count, differ)
	}
}

// P1403: what was told at the limits is left as it is, too.
func TestAgainLimits(t *testing.T) {
	for size := 3900; size <= 4000; size += 5 {
		g, err := Nnf(sized(size))
		if err != api.OK {
			t.Fatalf("error %d", int(err))
		}
		again(t, Nnf, g)
		again(t, Mini, g)
	}
	for have := 630; have < 660; have++ {
		g, err := Mini(spread(have, sized(20)))
		if err != api.OK {
			t.Fatalf("error %d", int(err))
		}
		again(t, Mini, g)
		again(t, Nnf, g)
	}
}

// roomy: the formula in new memory, all lists with spare room with something in it.
func roomy(f api.Formula) api.Formula {
	f.L, f.R = roomyTerm(f.L), roomyTerm(f.R)
	kids := make([]api.Formula, 0, len(f.Kids)+2)
	for _, kid := range f.Kids {
		kids = append(kids, roomy(kid))
	}
	f.Kids = append(kids, pred("spare"), pred("spare"))[:len(kids)]
	return f
}

func roomyTerm(t api.Term) api.Term {
	args := make([]api.Term, 0, len(t.Args)+2)
	for _, arg := range t.Args {
		args = append(args, roomyTerm(arg))
	}
	t.Args = append(args, fn("spare"), fn("spare"))[:len(args)]
	return t
}

// whole: a formula as a text, with what stands in the spare room of its lists.
func whole(f api.Formula) string {
	var term func(one api.Term) api.Term
	term = func(one api.Term) api.Term {
		one.Args = slices.Clone(one.Args[:cap(one.Args)])
		for i := range one.Args {
			one.Args[i] = term(one.Args[i])
		}
		return one
	}
	var all func(f api.Formula) api.Formula
	all = func(f api.Formula) api.Formula {
		f.L, f.R, f.Kids = term(f.L), term(f.R), slices.Clone(f.Kids[:cap(f.Kids)])
		for i := range f.Kids {
			f.Kids[i] = all(f.Kids[i])
		}
		return f
	}
	return raw(all(f))
}

// alone: no two lists of the formula share memory, spare room too.
func alone(t *testing.T, f api.Formula) {
	t.Helper()
	seen := map[any]bool{}
	var term func(one api.Term)
	term = func(one api.Term) {
		for i := range one.Args[:cap(one.Args)] {
			at := &one.Args[:cap(one.Args)][i]
			if seen[at] {
				t.Fatalf("%s shares memory", shown(f))
			}
			seen[at] = true
			term(*at)
		}
	}
	var all func(f api.Formula)
	all = func(f api.Formula) {
		term(f.L)
		term(f.R)
		for i := range f.Kids[:cap(f.Kids)] {
			at := &f.Kids[:cap(f.Kids)][i]
			if seen[at] {
				t.Fatalf("%s shares memory", shown(f))
			}
			seen[at] = true
			all(*at)
		}
	}
	all(f)
}

// spoil: writes into all that the formula has, spare room too.
func spoil(f *api.Formula) {
	var term func(one *api.Term)
	term = func(one *api.Term) {
		for i := range one.Args[:cap(one.Args)] {
			term(&one.Args[:cap(one.Args)][i])
		}
		*one = fn("spoilt")
	}
	term(&f.L)
	term(&f.R)
	for i := range f.Kids[:cap(f.Kids)] {
		spoil(&f.Kids[:cap(f.Kids)][i])
	}
	*f = pred("spoilt")
}

// Rules 4 and 5: what is handed in is not changed, its spare room neither; what is handed out shares no memory; asked twice, the answer is one.
func TestLeaves(t *testing.T) {
	check := func(do call, f api.Formula) {
		t.Helper()
		f = roomy(f)
		before := whole(f)
		g, err := do(f)
		want := raw(g)
		alone(t, g)
		spoil(&g)
		if whole(f) != before {
			t.Fatalf("%s was changed", shown(f))
		}
		again, same := do(f)
		if raw(again) != want || same != err {
			t.Fatalf("%s: another answer", shown(f))
		}
		spoil(&f)
		if raw(again) != want {
			t.Fatal("the answer is shared")
		}
	}
	m := newMaker(144, allKinds()...)
	n := newMaker(145, turnedKinds()...)
	for range 3000 {
		check(Nnf, m.formula(1+m.Intn(6), 10))
		check(Mini, n.formula(1+m.Intn(7), 10))
	}
	p := pred("p", fn("f", fn("X")))
	for _, f := range []api.Formula{p, not(p), yes(), and(p, yes()), iff(p, p), iff(iff(p, p), p), forAll("X", p), forAll("Y", p), not(not(p)), {}} {
		check(Nnf, f)
		check(Mini, f)
	}
}

// P1401, P1402: of what the texts of formulas give, both after another.
func TestBothCalls(t *testing.T) {
	for _, c := range [][2]string{
		{"(! [X] : p(X) => ? [Y] : p(Y))", "(? [X] : ~ p(X) | ? [Y] : p(Y))"},
		{"~ ? [X] : (p(X) => ! [Y] : p(Y))", "(! [X] : p(X) & ? [Y] : ~ p(Y))"},
		{"! [X] : (p(X) <=> q)", "(((! [X] : ~ p(X)) | q) & (! [X] : p(X) | ~ q))"},
		{"! [X,Y] : (X = Y => f(X) = f(Y))", "! [X] : ! [Y] : (X != Y | f(X) = f(Y))"},
	} {
		g, err := Nnf(read(t, c[0]))
		if err != api.OK {
			t.Fatalf("%q: error %d", c[0], int(err))
		}
		gives(t, Mini, g, read(t, c[1]))
	}
	if _, err := Mini(read(t, "(p => q)")); err != api.ErrArg {
		t.Errorf("error %d", int(err))
	}
}
