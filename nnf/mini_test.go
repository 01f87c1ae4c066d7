package nnf

import (
	"slices"
	"testing"

	"assize/api"
	"assize/syntax"
)

// P1402: each way of pushing, and the chapter's example.
func TestMiniWays(t *testing.T) {
	for _, c := range [][2]string{
		{"p", "p"}, {"~ p", "~ p"}, {"a != X", "a != X"}, {"$true", "$true"}, {"$false", "$false"}, {"(p & $true)", "(p & $true)"}, {"($false | p)", "($false | p)"},
		{"! [X] : p", "p"}, {"? [X] : p(Y)", "p(Y)"}, {"! [X] : $true", "$true"}, {"? [X] : $false", "$false"}, {"! [X] : (p & $true)", "(p & $true)"},
		{"! [X] : p(X)", "! [X] : p(X)"}, {"? [X] : ~ p(f(X))", "? [X] : ~ p(f(X))"}, {"! [X] : a = X", "! [X] : a = X"}, {"! [X] : X = a", "! [X] : X = a"},
		{"! [X] : (p(X) & q(X))", "(! [X] : p(X) & ! [X] : q(X))"}, {"? [X] : (p(X) | q(X))", "(? [X] : p(X) | ? [X] : q(X))"},
		{"! [X] : (p(X) & q)", "(! [X] : p(X) & q)"}, {"! [X] : (p & q(X))", "(p & ! [X] : q(X))"}, {"? [X] : (p(X) | q)", "(? [X] : p(X) | q)"}, {"? [X] : (p | q(X))", "(p | ? [X] : q(X))"},
		{"! [X] : (p(X) | q)", "(! [X] : p(X) | q)"}, {"! [X] : (p | q(X))", "(p | ! [X] : q(X))"}, {"? [X] : (p(X) & q)", "(? [X] : p(X) & q)"}, {"? [X] : (p & q(X))", "(p & ? [X] : q(X))"},
		{"! [X] : (p(X) | q(X))", "! [X] : (p(X) | q(X))"}, {"? [X] : (p(X) & q(X))", "? [X] : (p(X) & q(X))"},
		{"! [X] : ((p(X) & q(X)) | r)", "((! [X] : p(X) & ! [X] : q(X)) | r)"}, {"? [X] : ((p(X) | q(X)) & r)", "((? [X] : p(X) | ? [X] : q(X)) & r)"},
		{"! [X] : ((p(X) | q(X)) & r(X))", "(! [X] : (p(X) | q(X)) & ! [X] : r(X))"}, {"! [X] : ((p(X) & q(X)) | r(X))", "! [X] : ((p(X) & q(X)) | r(X))"},
		{"! [X] : ! [Y] : (p(X) | q(Y))", "(! [X] : p(X) | ! [Y] : q(Y))"}, {"! [X] : ? [Y] : (p(X) & q(Y))", "(! [X] : p(X) & ? [Y] : q(Y))"},
		{"! [X] : ? [Y] : r(X,Y)", "! [X] : ? [Y] : r(X,Y)"}, {"! [X] : ! [Y] : p(X)", "! [X] : p(X)"}, {"! [X] : ! [Y] : p(Y)", "! [Y] : p(Y)"}, {"! [X] : ! [X] : p(X)", "! [X] : p(X)"}, {"! [X] : ? [X] : p(X)", "? [X] : p(X)"},
		{"! [X] : (p(X) & ? [X] : q(X))", "(! [X] : p(X) & ? [X] : q(X))"}, {"! [X] : (p(X) | ? [X] : q(X))", "(! [X] : p(X) | ? [X] : q(X))"}, {"? [X] : (! [X] : p(X) & q(X))", "(! [X] : p(X) & ? [X] : q(X))"},
		{"? [X] : ! [Y] : (r(X,Y) & p(X))", "? [X] : (! [Y] : r(X,Y) & p(X))"}, {"! [X] : ! [Y] : (r(X,Y) & p(X))", "(! [X] : ! [Y] : r(X,Y) & ! [X] : p(X))"},
		{"! [X] : ! [Y] : (p(X) & q(Y))", "(! [X] : p(X) & ! [Y] : q(Y))"}, {"? [X] : (p(X) & (q(X) & r))", "? [X] : (p(X) & (q(X) & r))"}, {"? [X] : ((p & q(X)) & (r & s))", "((p & ? [X] : q(X)) & (r & s))"},
		{"(! [X] : p & ? [X] : (p(X) | q))", "(p & (? [X] : p(X) | q))"}, {"! [X] : (~ p(X) & a != X)", "(! [X] : ~ p(X) & ! [X] : a != X)"},
	} {
		f := read(t, c[0])
		gives(t, Mini, f, read(t, c[1]))
		if got, _ := Mini(f); syntax.Show(got) != c[1] {
			t.Errorf("%q: %q, not %q", c[0], syntax.Show(got), c[1])
		}
	}
	long := "V" + string(slices.Repeat([]byte("v"), 62))
	gives(t, Mini, forAll(long, or(pred("p", fn(long)), pred("p", fn(long[:62])))), or(forAll(long, pred("p", fn(long))), pred("p", fn(long[:62]))))
}

// P1402: kinds that it does not take, wherever they stand.
func TestMiniKinds(t *testing.T) {
	p, q := pred("p"), pred("q", fn("X"))
	for _, wrong := range []api.Formula{
		imp(p, q), iff(p, q), not(not(p)), not(yes()), not(no()), not(and(p, q)), not(or(p, q)), not(imp(p, q)), not(iff(p, q)), not(forAll("X", q)), not(exists("X", q)), not(not(not(p))), imp(yes(), yes()), iff(no(), no()),
	} {
		for _, f := range []api.Formula{
			wrong, and(p, wrong), and(wrong, p), or(q, wrong), or(wrong, q), forAll("X", wrong), exists("Y", and(p, or(wrong, p))), and(no(), wrong), or(yes(), wrong), not(wrong),
		} {
			fails(t, Mini, f, api.ErrArg)
		}
	}
	for _, f := range []api.Formula{not(p), not(q), not(eq(fn("a"), fn("X"))), and(not(p), or(not(q), p)), yes(), no(), or(yes(), no())} {
		gives(t, Mini, f, f)
	}
}

// P1402: what is not right comes ahead of the kinds, the kinds ahead of what comes.
func TestMiniOrder(t *testing.T) {
	fails(t, Mini, and(sized(3990), imp(pred("p"), pred("p", fn("a")))), api.ErrArg)
	fails(t, Mini, and(sized(3993), imp(pred("p"), pred("p"))), api.ErrBig)
	fails(t, Mini, not(not(eq(deep(56, fn("a")), fn("a")))), api.ErrArg)
	fails(t, Mini, not(not(eq(deep(57, fn("a")), fn("a")))), api.ErrDeep)
	fails(t, Mini, iff(api.Formula{}, pred("p")), api.ErrArg)
	fails(t, Mini, forAll("Z", and(sized(3000), imp(pred("p"), pred("p")))), api.ErrArg)
}

// spread: FAll over that many atoms that have its variable, and one formula that has it not. What comes has a quantifier for each of them.
func spread(have int, other api.Formula) api.Formula {
	list := slices.Repeat([]api.Formula{pred("p", fn("X"))}, have)
	for len(list) > 1 {
		var next []api.Formula
		for pair := range slices.Chunk(list, 2) {
			f := pair[0]
			if len(pair) == 2 {
				f = and(pair[0], pair[1])
			}
			next = append(next, f)
		}
		list = next
	}
	return forAll("X", and(list[0], other))
}

// P1402: what comes is at a limit, or one beyond it. (It is never deeper.)
func TestMiniLimits(t *testing.T) {
	for size := 3990; size <= 4010; size++ {
		// each of 600 atoms has 4 parts and a quantifier, and an FAnd stands behind each
		f := spread(600, sized(size-6*600))
		if size > 4000 {
			fails(t, Mini, f, api.ErrBig)
		} else if got, err := Mini(f); err != api.OK || syntax.Size(got) != size {
			t.Fatalf("error %d, size %d, not %d", int(err), syntax.Size(got), size)
		}
	}
	fails(t, Mini, exists("Y", or(spread(790, pred("p")), pred("p", fn("Y")))), api.ErrBig)
	for depth := 50; depth <= 60; depth++ {
		tower := forAll("Y", and(pred("p", fn("X")), eq(deep(depth%2, fn("Y")), deep(depth%2+1, fn("X")))))
		for syntax.Depth(tower)+2 <= depth {
			tower = forAll("X", and(tower, pred("p", fn("X"))))
		}
		gives(t, Mini, tower, modelMini(tower))
		gives(t, Mini, forAll("X", eq(deep(depth-3, fn("X")), fn("a"))), forAll("X", eq(deep(depth-3, fn("X")), fn("a"))))
	}
	fails(t, Mini, forAll("X", eq(deep(58, fn("X")), fn("a"))), api.ErrDeep)
}

// P1402: it ends soon, where many quantifiers go far in, and where each looks for its variable in vain.
func TestMiniMany(t *testing.T) {
	var names []string
	for i := range 26 {
		names = append(names, string(rune('A'+i)))
	}
	side := fn("a")
	for _, name := range names {
		side = fn("f", fn(name), side)
	}
	atom := eq(side, fn("a"))
	last := sized(3000)
	for range 15 {
		last = and(last, pred("p"))
	}
	last = and(last, pred("p", fn("A")))
	many := and(atom, and(atom, and(atom, atom)))
	for _, name := range names[:25] {
		last, many = forAll(name, last), forAll(name, many)
	}
	for range 200 {
		for _, f := range []api.Formula{last, many} {
			if _, err := Mini(f); err != api.OK {
				t.Fatalf("error %d", int(err))
			}
		}
	}
	gives(t, Mini, many, modelMini(many))
	gives(t, Mini, last, modelMini(last))
}

// P1402: all small formulas, held against the chapter's words.
func TestMiniAll(t *testing.T) {
	x, y := fn("X"), fn("Y")
	list := grown(turnedKinds(), []api.Formula{yes(), pred("p"), pred("q", x), not(pred("p", y)), eq(x, y)})
	var more []api.Formula
	for _, f := range list {
		more = append(more, forAll("X", f), exists("Y", f), forAll("Y", exists("X", f)))
	}
	for _, f := range slices.Concat(list, more) {
		gives(t, Mini, f, modelMini(f))
	}
	if len(more) < 9000 {
		t.Errorf("only %d formulas", len(more))
	}
}

// isInside: is each quantifier of a variable that its kid has, and is there none that the chapter would push?
func isInside(f api.Formula) bool {
	if f.Kind == api.FAll || f.Kind == api.FEx {
		kid := f.Kids[0]
		if !modelFree(kid)[f.Name] || f.Kind == api.FAll && kid.Kind == api.FAnd || f.Kind == api.FEx && kid.Kind == api.FOr {
			return false
		}
		if kid.Kind == api.FAnd || kid.Kind == api.FOr {
			if !modelFree(kid.Kids[0])[f.Name] || !modelFree(kid.Kids[1])[f.Name] {
				return false
			}
		}
	}
	return !slices.ContainsFunc(f.Kids, func(kid api.Formula) bool { return !isInside(kid) })
}

// P1402: formulas by chance, held against the chapter's words.
func TestMiniChance(t *testing.T) {
	m := newMaker(142, turnedKinds()...)
	stay, changed := 0, 0
	for i := range 20000 {
		f := m.formula(1+m.Intn(9), 3+i%40)
		if syntax.Right(f) != api.OK {
			continue
		}
		want := modelMini(f)
		gives(t, Mini, f, want)
		if !isInside(want) {
			t.Fatalf("%s could go further", shown(want))
		}
		if want.Kind == api.FAll || want.Kind == api.FEx {
			stay++
		}
		if !syntax.Same(f, want) {
			changed++
		}
	}
	if stay < 1000 || changed < 5000 {
		t.Errorf("only %d with a quantifier at the top, %d changed", stay, changed)
	}
}
