package cnf

import (
	"math"
	"slices"
	"strconv"
	"testing"
	"time"

	"assize/api"
	"assize/lits"
	"assize/nnf"
	"assize/syntax"
)

// P1501: the chapter's examples, and each kind of formula.
func TestClausesKinds(t *testing.T) {
	for _, c := range []struct {
		f    string
		tag  int
		want string
	}{
		{"? [X] : p(X)", 3, "p($s0_3)"},
		{"! [X] : ? [Y] : r(X,Y)", 0, "r(X0,$s1_0(X0))"},
		{"p", 0, "p"}, {"~ p", 0, "~p"}, {"b = a", 0, "b = a"}, {"b != a", 0, "b != a"}, {"~ ~ p", 0, "p"},
		{"$true", 0, ""}, {"$false", 0, "[]"}, {"(p & $false)", 0, "[]"}, {"! [X] : (p(X) | $true)", 0, ""},
		{"(p & q)", 0, "p; q"}, {"((p & q) & (r & s))", 0, "p; q; r; s"}, {"(p | q)", 0, "p | q"}, {"(q | (p | ~ r))", 0, "q | p | ~r"},
		{"((p & q) | (r & s))", 0, "p | r; p | s; q | r; q | s"}, {"(p | (r & s))", 0, "p | r; p | s"}, {"((r & s) | p)", 0, "r | p; s | p"},
		{"(p => q)", 0, "~p | q"}, {"(p <=> q)", 0, "~p | q; p | ~q"}, {"~ (p <=> q)", 0, "p | q; ~p | ~q"},
		{"! [X] : p(X)", 0, "p(X0)"}, {"(p | ! [X] : (q(X) & r(X)))", 0, "p | q(X0); p | r(X0)"},
		{"! [X] : ! [Y] : (r(Y,X) | f(X) = Y)", 0, "r(X0,X1) | f(X1) = X0"},
		{"(! [X] : p(X) & ! [X] : q(X))", 0, "p(X0); q(X0)"}, {"(! [X] : p(X) | ! [X] : q(X))", 0, "p(X0) | q(X1)"},
		{"! [X] : (p(X) & ? [Y] : r(Y,X))", 7, "p(X0); r($s2_7(X0),X0)"},
		{"! [X] : (p(X) => ? [Y] : (r(X,Y) & q(Y)))", 1000000, "~p(X0) | r(X0,$s1_1000000(X0)); ~p(X0) | q($s1_1000000(X0))"},
		{"~ ! [X] : (p(X) => ! [Y] : p(Y))", 5, "p($s0_5); ~p($s1_5)"},
		{"? [X] : ! [Y] : r(X,Y)", 2, "r($s0_2,X0)"}, {"? [X] : ! [Y] : ? [Z] : s(X,Y,Z)", 2, "s($s0_2,X0,$s2_2($s0_2,X0))"},
		{"? [X] : ? [Y] : r(X,Y)", 2, "r($s0_2,$s1_2($s0_2))"}, {"? [X] : ? [Y] : (p(X) & q(Y))", 2, "p($s0_2); q($s1_2)"},
		{"! [X] : ? [Y] : ! [Z] : ? [V] : s(Y,Z,V)", 0, "s($s0_0,X0,$s2_0($s0_0,X0))"},
		{"! [X] : ? [Y] : (r(X,Y) & ! [Z] : ? [V] : s(Y,Z,V))", 0, "r(X0,$s1_0(X0)); s($s1_0(X0),X1,$s3_0($s1_0(X0),X1))"},
		{"? [Y] : f(Y) = g(Y,Y)", 9, "f($s0_9) = g($s0_9,$s0_9)"},
	} {
		gives(t, read(t, c.f), c.tag, c.want)
	}
}

// P1501: what is cleaned, what goes, and in which way variables are named.
func TestClausesThen(t *testing.T) {
	for _, c := range [][2]string{
		{"(p | ~ p)", ""}, {"(p | p)", "p"}, {"(p | (q | p))", "p | q"}, {"! [X] : X = X", ""}, {"a = a", ""}, {"a != a", "[]"}, {"(a != a | p)", "p"}, {"(p | a != a)", "p"},
		{"(a = b | b = a)", "a = b"}, {"(a = b | b != a)", ""}, {"(b != a | a != b)", "b != a"}, {"((p | ~ p) & q)", "q"}, {"(q & (p | ~ p))", "q"},
		{"(p & p)", "p; p"}, {"(a != a & a != a)", "[]; []"}, {"((p & q) | (~ p & r))", "p | r; q | ~p; q | r"},
		{"! [X,Y] : (p(X) | p(Y))", "p(X0) | p(X1)"}, {"! [X,Y] : (r(Y,X) | r(Y,X))", "r(X0,X1)"}, {"! [X] : (X != X | (p(X) | ! [Y] : (Y != Y | r(X,Y))))", "p(X0) | r(X0,X1)"},
		{"! [X] : (p(X) | ~ p(X))", ""}, {"(! [X] : p(X) | ~ ! [X] : p(X))", "p(X0) | ~p($s1_0)"},
		{"! [X,Y,Z] : (s(Z,Y,X) & s(Y,Z,X))", "s(X0,X1,X2); s(X0,X1,X2)"},
	} {
		gives(t, read(t, c[0]), 0, c[1])
	}
}

// P1501: the tag is asked first, and has its own limits.
func TestClausesTag(t *testing.T) {
	f := read(t, "? [X] : p(X)")
	for _, tag := range []int{0, 1, 9, 10, 999999, 1000000} {
		gives(t, f, tag, "p($s0_"+strconv.Itoa(tag)+")")
	}
	wrong := []api.Formula{f, {}, pred("p", fn("X")), all("p", 401), tower(61, pred("p"))}
	for _, tag := range []int{-1, 1000001, math.MinInt, math.MaxInt} {
		for _, f := range wrong {
			fails(t, f, tag, api.ErrArg)
		}
	}
}

// tower: a formula with that many quantifiers around it, all of its own variable.
func tower(count int, f api.Formula) api.Formula { return over(api.FAll, names("X", count), f) }

// P1501: formulas that are not right, not closed, or become too great on the way.
func TestClausesWrong(t *testing.T) {
	free, wide := pred("p", fn("X")), pred("p", slices.Repeat([]api.Term{fn("a")}, 17)...)
	for _, c := range []struct {
		f    api.Formula
		want api.Errno
	}{
		{api.Formula{}, api.ErrArg}, {of(11, ""), api.ErrArg}, {of(-1, ""), api.ErrArg}, {of(api.FAnd, "", yes()), api.ErrArg}, {of(api.FAll, "x", yes()), api.ErrArg},
		{pred("$p"), api.ErrArg}, {eq(fn("$s0_0"), fn("a")), api.ErrArg}, {pred("$d0_0"), api.ErrArg}, {pred("p", x(3)), api.ErrArg}, {and(free, of(0, "")), api.ErrArg},
		{wide, api.ErrBig}, {or(free, wide), api.ErrBig}, {balanced(api.FOr, atoms("p", 1001)), api.ErrBig}, {tower(59, pred("p")), api.ErrDeep}, {tower(59, free), api.ErrDeep},
		{free, api.ErrFree}, {of(api.FAll, "Y", free), api.ErrFree}, {and(of(api.FEx, "X", free), free), api.ErrFree}, {or(free, yes()), api.ErrFree}, {of(api.FAll, "Y", eq(fn("Y"), fn("f", fn("Z")))), api.ErrFree},
	} {
		fails(t, c.f, 0, c.want)
	}
	gives(t, tower(58, pred("p")), 0, "p")
}

// P1501: Nnf's and Mini's errors.
func TestClausesMadeReady(t *testing.T) {
	many := pred("p")
	for i := range 20 {
		many = iff(pred("q"+strconv.Itoa(i)), many)
	}
	fails(t, many, 0, api.ErrBig)
	sides := func(times int) api.Formula {
		side := fn("X")
		for range times {
			side = fn("f", side)
		}
		return of(api.FAll, "X", iff(pred("p", side), pred("q")))
	}
	// two signs stand in the place of one, and FNot ahead of the atom
	if f := sides(54); syntax.Right(f) != api.OK || syntax.Depth(f) != 59 {
		t.Fatalf("depth %d", syntax.Depth(f))
	}
	made(t, sides(53), 0)
	fails(t, sides(54), 0, api.ErrDeep)
	spread := func(count int) api.Formula {
		list := names("X", 16)
		return over(api.FAll, list, all("p", count, vars(list)...))
	}
	if got := made(t, spread(111), 0); len(got) != 111 {
		t.Errorf("%d clauses", len(got))
	}
	if _, err := nnf.Mini(spread(112)); err != api.ErrBig {
		t.Fatalf("error %d", int(err))
	}
	fails(t, spread(112), 0, api.ErrBig)
}

// P1501: arguments of Skolem terms rise by number, not by bytes; variables that are not free in the formula are not among them.
func TestClausesRising(t *testing.T) {
	list := names("V", 12)
	down := vars(list)
	slices.Reverse(down)
	f := over(api.FAll, list, of(api.FEx, "Y", pred("q", append(down, fn("Y"))...)))
	gives(t, f, 1, "q(X0,X1,X2,X3,X4,X5,X6,X7,X8,X9,X10,X11,$s12_1(X11,X10,X9,X8,X7,X6,X5,X4,X3,X2,X1,X0))")
	f = over(api.FAll, list, or(pred("q", down...), of(api.FEx, "Y", pred("p", fn("V10"), fn("V2"), fn("Y"), fn("V9")))))
	gives(t, f, 0, "q(X0,X1,X2,X3,X4,X5,X6,X7,X8,X9,X10,X11) | p(X1,X9,$s12_0(X9,X2,X1),X2)")
}

// P1501: a Skolem term of MaxArgs variables may be, of one more not. (No predicate could have them all, and so they stand in two.)
func TestClausesSkolemArgs(t *testing.T) {
	wide := func(count int) api.Formula {
		list := names("X", count)
		return over(api.FAll, list, of(api.FEx, "Y", and(pred("p", append(vars(list[:10]), fn("Y"))...), pred("q", append(vars(list[10:]), fn("Y"))...))))
	}
	if got := made(t, wide(16), 0); len(got) != 2 || len(got[0][0].L.Args[10].Args) != 16 || len(got[1][0].L.Args[6].Args) != 16 {
		t.Errorf("%s", text(got))
	}
	fails(t, wide(17), 0, api.ErrBig)
	// what stands further out for some thing counts as the variable that it is
	nested := func(outer int) api.Formula {
		f := wide(15)
		return over(api.FEx, names("Z", outer), and(pred("u", vars(names("Z", outer))...), replaced(f, pred("q"), append(vars(names("X", 15)[10:]), append(vars(names("Z", outer)), fn("Y"))...))))
	}
	if got := made(t, nested(1), 0); len(got) != 3 || text(got[:1]) != "u($s0_0)" || len(got[1][0].L.Args[10].Args) != 16 || termText(got[1][0].L.Args[10].Args[0]) != "$s0_0" {
		t.Errorf("%s", text(got))
	}
	fails(t, nested(2), 0, api.ErrBig)
}

// replaced: the formula with these arguments in all atoms of the predicate.
func replaced(f, atom api.Formula, args []api.Term) api.Formula {
	if f.L.Fn == atom.L.Fn && f.Kind == api.FAtom {
		f.L.Args = args
	}
	var kids []api.Formula
	for _, kid := range f.Kids {
		kids = append(kids, replaced(kid, atom, args))
	}
	f.Kids = kids
	return f
}

// P1501: Skolem terms within Skolem terms double at each step: the limit is told, and soon, also where it is far away.
func TestClausesSkolemDoubles(t *testing.T) {
	row := func(count int) api.Formula {
		list := names("X", count)
		return over(api.FEx, list, pred("r", vars(list)...))
	}
	// of all together 2^11 - 1, and of the predicate and $true
	if got := made(t, row(11), 0); lits.Size(got[0]) != 2049 {
		t.Errorf("size %d", lits.Size(got[0]))
	}
	fails(t, row(12), 0, api.ErrBig)
	fails(t, row(16), 0, api.ErrBig)
	begun := time.Now()
	// each has the 14 or 15 ahead of it, and all stand within it ahead of the first atom
	list := names("X", 36)
	f := pred("last", vars(list[20:])...)
	for i := len(list) - 1; i >= 0; i -= 2 {
		f = over(api.FEx, list[i-1:i+1], and(f, pred("r", vars(list[max(0, i-15):i+1])...)))
	}
	fails(t, f, 0, api.ErrBig)
	// one literal whose sides would be great beyond all limits
	f = over(api.FEx, names("X", 11), eq(balancedTerm(vars(slices.Repeat(names("X", 11), 150))), fn("a")))
	fails(t, f, 0, api.ErrBig)
	if took := time.Since(begun); took > 5*time.Second {
		t.Errorf("it took %v", took)
	}
}

// balancedTerm: one term of many, by a function of two.
func balancedTerm(list []api.Term) api.Term {
	if len(list) == 1 {
		return list[0]
	}
	half := len(list) / 2
	return fn("g", balancedTerm(list[:half]), balancedTerm(list[half:]))
}

// P1501: as many clauses as may come of a part, and one more, also where some would go at the end, or stand twice.
func TestClausesCount(t *testing.T) {
	either := func(f api.Formula) api.Formula { return or(f, not(f)) }
	for count := 399; count <= 402; count++ {
		always, same := slices.Repeat([]api.Formula{either(pred("p"))}, count), slices.Repeat([]api.Formula{pred("p")}, count)
		forms := map[string]struct {
			f    api.Formula
			left int
		}{
			"and":        {all("p", count), count},
			"all":        {of(api.FAll, "X", all("p", count, fn("X"))), count},
			"right":      {or(pred("q"), all("p", count)), count},
			"left":       {or(all("p", count), pred("q")), count},
			"within":     {or(or(all("p", count), pred("q")), or(pred("r"), pred("s"))), count},
			"defined":    {or(all("p", count-7), all("q", 7)), count},
			"halves":     {or(all("p", 200), all("q", count-200)), count},
			"tautology":  {balanced(api.FAnd, always), 0},
			"same":       {balanced(api.FAnd, same), count},
			"everywhere": {or(not(pred("p0")), all("p", count)), count - 1},
		}
		for name, c := range forms {
			if count > 400 {
				fails(t, c.f, 0, api.ErrBig)
			} else if got := made(t, c.f, 0); len(got) != c.left {
				t.Errorf("%s of %d: %d clauses, not %d", name, count, len(got), c.left)
			}
		}
	}
	fails(t, and(all("p", 400), pred("q")), 0, api.ErrBig)
	fails(t, or(and(all("p", 400), pred("q")), pred("r")), 0, api.ErrBig)
	// without a definition 40000 would come
	if got := made(t, or(all("p", 200), all("q", 200)), 0); text(got[:1]) != "p0 | $d0_0" || text(got[399:]) != "~$d0_0 | q199" {
		t.Errorf("%s", text(got))
	}
}

// P1501: as many literals as a clause may have, and one more, as it is put together: what is cleaned later counts.
func TestClausesLits(t *testing.T) {
	for count := 59; count <= 62; count++ {
		some := func(name string, count int) api.Formula { return balanced(api.FOr, atoms(name, count)) }
		forms := []struct {
			f    api.Formula
			want int
		}{
			{some("p", count), count},
			{balanced(api.FOr, slices.Repeat([]api.Formula{pred("p")}, count)), 1},
			{balanced(api.FOr, slices.Repeat([]api.Formula{not(eq(fn("a"), fn("a")))}, count)), 0},
			{or(some("p", count-1), all("q", 400)), count},
			{or(some("p", count-2), or(all("q", 4), all("r", 4))), count},
			// the definition's atom is one of them
			{or(and(some("p", count-1), all("q", 4)), all("r", 4)), count},
			{or(all("r", 4), and(some("p", count-1), all("q", 4))), 2},
		}
		for i, c := range forms {
			if count > 60 {
				fails(t, c.f, 0, api.ErrBig)
			} else if got := made(t, c.f, 0); len(got[0]) != c.want {
				t.Errorf("form %d of %d: %d literals, not %d", i, count, len(got[0]), c.want)
			}
		}
	}
	// a tautology does not go ahead of the end
	list := append(atoms("p", 60), not(pred("p0")))
	fails(t, balanced(api.FOr, list), 0, api.ErrBig)
	if got := made(t, balanced(api.FOr, list[1:]), 0); len(got) != 1 || len(got[0]) != 60 {
		t.Errorf("%s", text(got))
	}
	if got := made(t, balanced(api.FOr, append(list[:59:59], list[60])), 0); len(got) != 0 {
		t.Errorf("%s", text(got))
	}
}

// P1501: as many parts as a clause may have, and one more.
func TestClausesNodes(t *testing.T) {
	for _, count := range []int{1, 2, 5, 20} {
		for size := 3990; size <= 4010; size++ {
			f := sized(size, count)
			if syntax.Right(f) != api.OK {
				t.Fatalf("error %d", int(syntax.Right(f)))
			}
			if size > 4000 {
				fails(t, f, 0, api.ErrBig)
			} else if got := made(t, f, 0); len(got) != 1 || len(got[0]) != count || lits.Size(got[0]) != size {
				t.Fatalf("size %d", lits.Size(got[0]))
			}
		}
	}
}

// sized: a formula whose one clause has that size, in so many literals. It has Skolem terms of 17 parts, since a formula is not so great itself.
func sized(size, literals int) api.Formula {
	if literals > 1 {
		return or(pred("q"+strconv.Itoa(literals)), sized(size-2, literals-1))
	}
	// the predicate and $true, 15 variables, and one within: 18; each part with a function above it adds one more than it has
	const skolems = 210
	list, parts := names("X", 16), slices.Repeat([]api.Term{fn("Y")}, skolems)
	for range (size - 18 - 18*skolems) / 2 {
		parts = append(parts, fn("a"))
	}
	if size%2 == 1 {
		parts[skolems] = fn("f", fn("a"))
	}
	return over(api.FAll, list, of(api.FEx, "Y", pred("p", append(vars(list[1:]), balancedTerm(append(parts, fn("X0"))))...)))
}
