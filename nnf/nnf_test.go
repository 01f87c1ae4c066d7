package nnf

import (
	"math"
	"slices"
	"testing"

	"assize/api"
	"assize/syntax"
)

// P1401: each kind as it is and negated, and the chapter's example.
func TestNnfKinds(t *testing.T) {
	for _, c := range [][3]string{
		{"p", "p", "~ p"}, {"a = X", "a = X", "a != X"}, {"$true", "$true", "$false"}, {"$false", "$false", "$true"},
		{"~ p", "~ p", "p"}, {"a != b", "a != b", "a = b"}, {"~ ~ p", "p", "~ p"}, {"~ ~ ~ p(f(X),a)", "~ p(f(X),a)", "p(f(X),a)"},
		{"(p & q)", "(p & q)", "(~ p | ~ q)"}, {"(p | q)", "(p | q)", "(~ p & ~ q)"},
		{"(p => q)", "(~ p | q)", "(p & ~ q)"}, {"(p <=> q)", "((~ p | q) & (p | ~ q))", "((p | q) & (~ p | ~ q))"},
		{"! [X] : p(X)", "! [X] : p(X)", "? [X] : ~ p(X)"}, {"? [Y] : p(Y)", "? [Y] : p(Y)", "! [Y] : ~ p(Y)"},
		{"! [X] : p", "! [X] : p", "? [X] : ~ p"},
		{"((p => q) => r)", "((p & ~ q) | r)", "((~ p | q) & ~ r)"}, {"(p => (q => r))", "(~ p | (~ q | r))", "(p & (q & ~ r))"},
		{"~ (p & ! [X] : q(X))", "(~ p | ? [X] : ~ q(X))", "(p & ! [X] : q(X))"},
		{"! [X] : ? [Y] : ~ (r(X,Y) => ~ r(Y,X))", "! [X] : ? [Y] : (r(X,Y) & r(Y,X))", "? [X] : ! [Y] : (~ r(X,Y) | ~ r(Y,X))"},
		{"(~ p <=> q)", "((p | q) & (~ p | ~ q))", "((~ p | q) & (p | ~ q))"}, {"(p <=> ~ q)", "((~ p | ~ q) & (p | q))", "((p | ~ q) & (~ p | q))"},
		{"((p <=> q) <=> r)", "((((p | q) & (~ p | ~ q)) | r) & (((~ p | q) & (p | ~ q)) | ~ r))", "((((~ p | q) & (p | ~ q)) | r) & (((p | q) & (~ p | ~ q)) | ~ r))"},
		{"(p <=> ! [X] : q(X))", "((~ p | ! [X] : q(X)) & (p | ? [X] : ~ q(X)))", "((p | ! [X] : q(X)) & (~ p | ? [X] : ~ q(X)))"},
	} {
		f := read(t, c[0])
		gives(t, Nnf, f, read(t, c[1]))
		gives(t, Nnf, not(f), read(t, c[2]))
		gives(t, Nnf, not(not(f)), read(t, c[1]))
		if got, _ := Nnf(f); syntax.Show(got) != c[1] {
			t.Errorf("%q: %q, not %q", c[0], syntax.Show(got), c[1])
		}
	}
}

// P1401: constants are taken in, at each step.
func TestNnfConstants(t *testing.T) {
	for _, c := range [][2]string{
		{"(p & $true)", "p"}, {"($true & p)", "p"}, {"(p & $false)", "$false"}, {"($false & p)", "$false"},
		{"(p | $true)", "$true"}, {"($true | p)", "$true"}, {"(p | $false)", "p"}, {"($false | p)", "p"},
		{"($true & $true)", "$true"}, {"($true & $false)", "$false"}, {"($false & $true)", "$false"}, {"($false & $false)", "$false"},
		{"($true | $true)", "$true"}, {"($true | $false)", "$true"}, {"($false | $true)", "$true"}, {"($false | $false)", "$false"},
		{"! [X] : $true", "$true"}, {"! [X] : $false", "$false"}, {"? [X] : $true", "$true"}, {"? [X] : $false", "$false"},
		{"(p => $true)", "$true"}, {"(p => $false)", "~ p"}, {"($true => p)", "p"}, {"($false => p)", "$true"},
		{"(p <=> $true)", "p"}, {"(p <=> $false)", "~ p"}, {"($true <=> p)", "p"}, {"($false <=> p)", "~ p"},
		{"~ (p <=> $true)", "~ p"}, {"~ (p <=> $false)", "p"}, {"~ ($true <=> p)", "~ p"}, {"~ ($false <=> p)", "p"},
		{"($true <=> $true)", "$true"}, {"($true <=> $false)", "$false"}, {"($false <=> $true)", "$false"}, {"($false <=> $false)", "$true"},
		{"~ $true", "$false"}, {"~ ($true & p)", "~ p"}, {"~ ($false & p)", "$true"}, {"~ ! [X] : $true", "$false"}, {"~ ? [X] : (p(X) | $true)", "$false"},
		{"(p & ! [X] : ? [Y] : (r(X,Y) | ~ $false))", "p"}, {"! [X] : (p(X) & ($false | (q & $true)))", "! [X] : (p(X) & q)"},
		{"((p & $false) | (q & $true))", "q"}, {"((p => $true) & (q <=> (r | $true)))", "q"}, {"(p & ~ p)", "(p & ~ p)"}, {"(p | ~ p)", "(p | ~ p)"}, {"a = a", "a = a"},
		{"! [X] : ! [Y] : (p(X) & (q => (p(Y) | $true)))", "! [X] : ! [Y] : p(X)"}, {"($false | ($false | ($true & $true)))", "$true"},
	} {
		gives(t, Nnf, read(t, c[0]), read(t, c[1]))
	}
}

// isNormal: the form that Nnf's answers have; a constant stands alone.
func isNormal(f api.Formula, alone bool) bool {
	switch f.Kind {
	case api.FImp, api.FIff:
		return false
	case api.FTrue, api.FFalse:
		return alone
	case api.FNot:
		return f.Kids[0].Kind == api.FAtom
	}
	return !slices.ContainsFunc(f.Kids, func(kid api.Formula) bool { return !isNormal(kid, false) })
}

// P1401: all small formulas, held against the chapter's words.
func TestNnfAll(t *testing.T) {
	list := grown(allKinds(), []api.Formula{yes(), no(), pred("p"), pred("q", fn("X")), not(eq(fn("X"), fn("Y")))})
	for _, f := range list {
		for _, g := range []api.Formula{f, not(f)} {
			gives(t, Nnf, g, modelNnf(g))
		}
	}
	if len(list) < 10000 {
		t.Errorf("only %d formulas", len(list))
	}
}

// P1401: formulas by chance, held against the chapter's words.
func TestNnfChance(t *testing.T) {
	m := newMaker(141, append(allKinds(), api.FIff)...)
	counts := map[api.Errno]int{}
	for i := range 6000 {
		f := m.formula(1+m.Intn(9), 3+i%40)
		if i%3 == 0 {
			f = m.tower(f, 55+m.Intn(6))
		}
		if syntax.Right(f) != api.OK || great(f) > 1e5 {
			continue
		}
		want := modelNnf(f)
		err := limits(want)
		counts[err]++
		if err == api.OK {
			gives(t, Nnf, f, want)
			if !isNormal(want, true) {
				t.Fatalf("%s is not normal", shown(want))
			}
		} else {
			fails(t, Nnf, f, err)
		}
	}
	if counts[api.OK] < 3000 || counts[api.ErrBig] < 50 || counts[api.ErrDeep] < 50 {
		t.Errorf("too few of a kind: %v", counts)
	}
}

// limits: the error of a formula that came.
func limits(f api.Formula) api.Errno {
	switch {
	case syntax.Size(f) > 4000:
		return api.ErrBig
	case syntax.Depth(f) > 60:
		return api.ErrDeep
	}
	return api.OK
}

// great: how many parts it would have at most, turned either way, constants and all.
func great(f api.Formula) float64 {
	sum := 2.0
	for _, kid := range f.Kids {
		sum += great(kid)
	}
	if f.Kind == api.FAtom {
		return float64(1 + syntax.Size(f))
	}
	if f.Kind == api.FIff {
		return 2 * sum
	}
	return sum
}

// tower: signs above the formula, up to that depth; none of them goes.
func (m maker) tower(f api.Formula, depth int) api.Formula {
	for range depth - syntax.Depth(f) {
		switch m.Intn(3) {
		case 0:
			f = imp(f, m.atom())
		case 1:
			f = forAll("X", f)
		default:
			f = or(m.atom(), f)
		}
	}
	return f
}

// P1401: what comes is at a limit, or one beyond it.
func TestNnfLimits(t *testing.T) {
	for size := 3990; size <= 4000; size++ {
		gives(t, Nnf, sized(size), sized(size))
	}
	fails(t, Nnf, sized(4001), api.ErrBig)
	// an equivalence of p and a formula g whose atoms are n: 3 + 2*3 + 1 + 2*size(g) + n
	for _, g := range []api.Formula{sized(400), sized(1100)} {
		n := atoms(g)
		base := 3 + 3 + 4 + 2*syntax.Size(g) + n
		for size := 3990; size <= 4010; size++ {
			f := and(iff(pred("p"), g), sized(size-1-base))
			if size <= 4000 {
				gives(t, Nnf, f, modelNnf(f))
				if got := syntax.Size(modelNnf(f)); got != size {
					t.Fatalf("size %d, not %d", got, size)
				}
			} else {
				fails(t, Nnf, f, api.ErrBig)
			}
		}
	}
	// negated atoms are one deeper; an equivalence is one deeper
	for depth := 50; depth < 70; depth++ {
		for _, f := range []api.Formula{
			not(forAll("X", eq(deep(depth-4, fn("X")), fn("a")))), iff(pred("p"), eq(deep(depth-5, fn("a")), fn("X"))), imp(pred("p", deep(depth-5, fn("a"))), no()), imp(yes(), eq(fn("b"), deep(depth-2, fn("X")))),
		} {
			came := modelNnf(f)
			switch {
			case syntax.Right(f) != api.OK:
				fails(t, Nnf, f, api.ErrDeep)
			case syntax.Depth(came) > 60:
				fails(t, Nnf, f, api.ErrDeep)
			default:
				gives(t, Nnf, f, came)
			}
		}
	}
	gives(t, Nnf, not(eq(deep(57, fn("a")), fn("b"))), not(eq(deep(57, fn("a")), fn("b"))))
	gives(t, Nnf, imp(eq(deep(57, fn("a")), fn("b")), no()), not(eq(deep(57, fn("a")), fn("b"))))
	fails(t, Nnf, imp(eq(deep(57, fn("a")), fn("b")), pred("p")), api.ErrDeep)
	// too great and too deep
	fails(t, Nnf, and(imp(eq(deep(56, fn("a")), fn("b")), pred("p")), sized(3800)), api.ErrDeep)
	fails(t, Nnf, iff(imp(eq(deep(55, fn("a")), fn("b")), pred("p")), sized(3800)), api.ErrBig)
}

func atoms(f api.Formula) int {
	if f.Kind == api.FAtom {
		return 1
	}
	count := 0
	for _, kid := range f.Kids {
		count += atoms(kid)
	}
	return count
}

// P1401: it ends soon, also where what would come is far above; and where that is taken in by a constant, it counts for nothing.
func TestNnfFar(t *testing.T) {
	chain, sizes := pred("p"), []int{3, 17, 44, 98, 206, 422, 854, 1718, 3446}
	for n := range 55 {
		if n < len(sizes) {
			got, err := Nnf(chain)
			if err != api.OK || syntax.Size(got) != sizes[n] {
				t.Fatalf("%d equivalences: error %d, size %d, not %d", n, int(err), syntax.Size(got), sizes[n])
			}
		} else {
			fails(t, Nnf, chain, api.ErrBig)
		}
		chain = iff(pred("p"), chain)
	}
	left, full := pred("p", fn("X")), pred("q")
	for range 53 {
		left = iff(left, not(pred("q", fn("a"))))
	}
	for range 9 {
		full = iff(full, full)
	}
	for _, f := range []api.Formula{chain, left, full} {
		for _, g := range []api.Formula{f, not(f), forAll("X", f), imp(pred("p"), f)} {
			fails(t, Nnf, g, api.ErrBig)
		}
		gives(t, Nnf, and(f, no()), no())
		gives(t, Nnf, or(yes(), f), yes())
		gives(t, Nnf, imp(f, yes()), yes())
		gives(t, Nnf, imp(no(), not(f)), yes())
		gives(t, Nnf, and(pred("p"), exists("X", or(f, yes()))), pred("p"))
		gives(t, Nnf, or(and(no(), f), pred("q")), pred("q"))
	}
	constants := yes()
	for range 58 {
		constants = iff(constants, no())
	}
	gives(t, Nnf, constants, yes())
	gives(t, Nnf, not(constants), no())
	gives(t, Nnf, iff(pred("p"), constants), pred("p"))
}

// flat: a term of that many parts, as flat as can be.
func flat(size int) api.Term {
	t := fn("f")
	for left := size - 1; left > 0; {
		part := (left + 15 - len(t.Args)) / (16 - len(t.Args))
		t.Args = append(t.Args, flat(part))
		left -= part
	}
	return t
}

// P1401, rule 6: what would come has (20 + 2 * 1013 + 2) * 2^53 parts, less 10: no number of Go's goes so far.
func TestNnfBeyond(t *testing.T) {
	side := flat(504)
	f := and(eq(side, fn("a")), eq(fn("b"), side))
	if size := syntax.Size(f); size != 1013 {
		t.Fatalf("size %d", size)
	}
	for range 54 {
		f = iff(pred("p"), f)
	}
	if err := syntax.Right(f); err != api.OK {
		t.Fatalf("error %d", int(err))
	}
	fails(t, Nnf, f, api.ErrBig)
}

// P1401, P1402: formulas that are not right have syntax.Right's error, whatever else they are.
func TestWrong(t *testing.T) {
	wide := pred("p", slices.Repeat([]api.Term{fn("a")}, 17)...)
	wrong := []api.Formula{
		{}, {Kind: 11}, {Kind: -1}, {Kind: math.MaxInt}, {Kind: math.MinInt}, of(api.FNot, ""), of(api.FAnd, "", pred("p")), of(api.FOr, "", pred("p"), pred("p"), pred("p")), of(api.FAll, "X"), of(api.FAll, "x", pred("p")),
		of(api.FEx, "", pred("p")), of(api.FTrue, "", pred("p")), of(api.FFalse, "X"), of(api.FIff, ""), of(api.FImp, "", pred("p")), eq(fn("a"), api.Term{}), eq(fn("a"), fn("$true")), eq(api.Term{Var: 1}, fn("a")), eq(fn("X", fn("a")), fn("a")),
		{Kind: api.FAtom, L: fn("a"), R: fn("b"), Kids: []api.Formula{pred("p")}}, {Kind: api.FAnd, L: fn("a"), Kids: []api.Formula{pred("p"), pred("p")}}, pred("X"), pred("p", fn("$s0_1")), eq(fn("@$d0_1"), fn("$true")),
		wide, sized(4001), eq(deep(59, fn("a")), fn("b")),
	}
	for _, do := range []call{Nnf, Mini} {
		for _, f := range wrong {
			for _, g := range []api.Formula{f, not(f), and(f, no()), or(yes(), f), forAll("X", and(pred("p"), f)), imp(no(), f), iff(f, pred("p"))} {
				if err := syntax.Right(g); err == api.OK {
					t.Fatalf("%s is right", raw(g))
				} else {
					fails(t, do, g, err)
				}
			}
		}
	}
	fails(t, Nnf, wide, api.ErrBig)
	fails(t, Mini, wide, api.ErrBig)
	fails(t, Nnf, and(wide, api.Formula{}), api.ErrArg)
	fails(t, Mini, not(not(eq(deep(59, fn("a")), fn("b")))), api.ErrDeep)
}

// Rule 1: formulas with very many parts within one another, or beside.
func TestGreat(t *testing.T) {
	const n = 1 << 16
	nots, alls, chain, iffs := yes(), pred("r", fn("X"), fn("Y")), pred("p"), pred("p")
	for range n {
		nots, alls, chain, iffs = not(nots), forAll("X", alls), and(chain, pred("p")), iff(iffs, no())
	}
	wide := pred("p", slices.Repeat([]api.Term{fn("a")}, 1<<20)...)
	for _, f := range []api.Formula{nots, alls, chain, iffs, eq(deep(n, fn("X")), fn("a")), wide} {
		fails(t, Nnf, f, api.ErrBig)
		fails(t, Mini, f, api.ErrBig)
	}
}
