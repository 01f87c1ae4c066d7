package infer

import (
	"testing"

	"assize/api"
	"assize/lits"
	"assize/multi"
)

// doubling: of two terms without a variable in common, whose unifier makes of each of so many variables a term of four times the one ahead. Six are too many, five are not.
func doubling(count int) (api.Clause, api.Clause) {
	side, part := fn("h"), fn("h")
	for i := range count {
		side.Args, part.Args = append(side.Args, v(i)), append(part.Args, fn("g", many(4, v(i))...))
	}
	for i := range count {
		side.Args, part.Args = append(side.Args, v(i)), append(part.Args, v(i+1))
	}
	return of(yes(side, fn("a"))), of(atom(fn("@p", part)))
}

// count: how many steps there are, whether something was lost; and what follows is right.
func count(t *testing.T, what string, l []api.Step, lost bool, steps int, wantLost bool) {
	t.Helper()
	if len(l) != steps || lost != wantLost {
		t.Errorf("%s: %d steps, %v, not %d, %v", what, len(l), lost, steps, wantLost)
	}
	for _, s := range l {
		if lits.Right(s.C) != api.OK {
			t.Errorf("%s: what follows is not right", what)
		}
	}
}

// lostCase: at a limit, and one beyond it.
type lostCase struct {
	what       string
	o          multi.Order
	sel        bool
	from, into api.Clause
	steps      int
	lost       bool
}

func wantLost(t *testing.T, cases []lostCase) {
	t.Helper()
	for _, c := range cases {
		l, lost := Super(c.o, c.sel, c.from, c.into)
		count(t, c.what, l, lost, c.steps, c.lost)
	}
}

// Lost, P1601: a unifier or an instance that is too great.
func TestSuperLostInstance(t *testing.T) {
	o, a := lp("a f flat k3 k @p @q"), fn("a")
	from5, into5 := doubling(5)
	from6, into6 := doubling(6)
	grows := of(yes(fn("k", v(0)), fn("k3", many(3, v(0))...)))
	deepens := of(yes(fn("h", v(0), chain(40, v(0))), a))
	bound := func(size int) api.Clause { return of(yes(fn("k", flat(size, a)), a)) }
	spread := of(not(fn("@p", fn("k", v(0))), fn("$true")), not(fn("@q", many(3, v(0))...), fn("$true")))
	deep := func(depth int) api.Clause { return of(atom(fn("@p", fn("h", chain(depth, v(0)), v(1))))) }
	below := of(not(fn("@p", fn("k", v(0))), fn("$true")), not(fn("@q", fn("f", v(0))), fn("$true")))
	wantLost(t, []lostCase{
		{"a great unifier", o, false, from5, into5, 1, false}, {"a unifier that is too great", o, false, from6, into6, 0, true},
		{"deepest", o, false, deepens, deep(19), 1, false}, {"too deep", o, false, deepens, deep(20), 0, true}, {"far too deep", o, false, deepens, deep(50), 0, true},
		{"from as great as may be", o, false, grows, of(atom(fn("@p", fn("k", flat(999, a))))), 1, false}, {"from too great", o, false, grows, of(atom(fn("@p", fn("k", flat(1000, a))))), 0, true},
		{"into as great as may be", o, true, bound(998), spread, 1, false}, {"into too great", o, true, bound(999), spread, 0, true},
		{"into as deep as may be", o, true, of(yes(fn("k", chain(58, a)), a)), below, 1, false}, {"into too deep", o, true, of(yes(fn("k", chain(59, a)), a)), below, 0, true},
		{"one place of two", o, false, grows, of(atom(fn("@q", fn("k", flat(1000, a)), fn("k", a)))), 1, true}, {"the other one", o, false, grows, of(atom(fn("@q", fn("k", a), fn("k", flat(1000, a))))), 1, true},
		{"one literal of two", o, false, grows, of(not(fn("@q", fn("k", flat(1000, a)), v(0)), fn("$true")), not(fn("@p", fn("k", v(1))), fn("$true"))), 1, true},
	})
}

// Lost, P1601: what would follow is not right: too many literals, too great, too deep.
func TestSuperLostClause(t *testing.T) {
	a, b, c := fn("a"), fn("b"), fn("c")
	few := kb("b a c @p")
	long := func(first api.Lit, count int) api.Clause { return append(of(first), many(count-1, yes(a, b))...) }
	o := lp("a f flat k3 k @p @q")
	grows := of(yes(fn("k", v(0)), fn("k3", many(3, v(0))...)))
	great := func(size int) api.Clause {
		return of(not(fn("@p", fn("k", flat(100, a))), fn("$true")), not(fn("@q", flat(size, a)), fn("$true")))
	}
	deepens := of(yes(fn("k", v(0)), chain(20, v(0))))
	deep := func(depth int) api.Clause { return of(atom(fn("@p", chain(depth, fn("k", a))))) }
	wantLost(t, []lostCase{
		{"as many literals as may be", few, false, long(yes(c, b), 30), long(atom(fn("@p", c)), 31), 1, false}, {"one more into", few, false, long(yes(c, b), 30), long(atom(fn("@p", c)), 32), 0, true},
		{"one more from", few, false, long(yes(c, b), 31), long(atom(fn("@p", c)), 31), 0, true}, {"as many as may be into", few, false, of(yes(c, b)), long(atom(fn("@p", c)), 60), 1, false},
		{"as many as may be from", few, false, long(yes(c, b), 60), of(atom(fn("@p", c))), 1, false}, {"both", few, false, long(yes(c, b), 60), long(atom(fn("@p", c)), 60), 0, true},
		{"as great as may be", o, true, grows, great(3695), 1, false}, {"too great", o, true, grows, great(3696), 0, true},
		{"as deep as may be", o, false, deepens, deep(40), 1, false}, {"too deep", o, false, deepens, deep(41), 0, true},
	})
}

// Lost, P1601: not what can be told: where nothing fits, or nothing follows whatever the instances are, or a condition fails of which they are not too great.
func TestSuperNotLost(t *testing.T) {
	a, b, c := fn("a"), fn("b"), fn("c")
	o, few := lp("a f flat k3 k @p @q"), kb("b a c @p")
	from, into := doubling(6)
	with := func(c api.Clause, l ...api.Lit) api.Clause { return append(c[:1:1], l...) }
	negated := of(not(from[0].L, from[0].R))
	clash := func(c api.Clause, t api.Term) api.Clause {
		l := c[0]
		if l.L.Fn == "h" {
			return of(yes(fn("h", append(l.L.Args[:12:12], t)...), l.R))
		}
		return of(atom(fn("@p", fn("h", append(l.L.Args[0].Args[:12:12], t)...))))
	}
	long := func(first api.Lit, count int) api.Clause { return append(of(first), many(count-1, yes(a, b))...) }
	wantLost(t, []lostCase{
		{"not Neg", o, false, with(from, not(a, a)), into, 0, true}, {"from has a selected one", o, true, with(from, not(a, a)), into, 0, false},
		{"into has another one selected", o, true, from, with(into, not(b, c)), 0, false}, {"into has it selected", o, true, from, of(not(into[0].L, into[0].R)), 0, true},
		{"from is Neg", o, false, negated, into, 0, false},
		{"the same at their ends", o, false, clash(from, b), clash(into, b), 0, true}, {"no unifier", o, false, clash(from, b), clash(into, c), 0, false},
		{"too many literals, but i is Less", few, false, long(yes(b, c), 31), long(atom(fn("@p", b)), 31), 0, false},
		{"too many literals, but i is not Strict", few, false, append(long(yes(c, b), 31), yes(c, b)), long(atom(fn("@p", c)), 31), 0, false},
		{"too many literals, but k is not Strict", few, false, long(yes(c, b), 31), append(long(atom(fn("@p", c)), 31), atom(fn("@p", c))), 0, false},
		{"too many literals, but k is not Maximal", few, false, long(yes(c, b), 31), append(long(not(fn("@p", c), fn("$true")), 31), atom(fn("@p", fn("f", fn("d"))))), 0, false},
	})
}

// Lost, P1601: variables that can't be set apart, since their numbers end.
func TestSuperLostVariables(t *testing.T) {
	o, last := lp("a k @p @q"), api.MaxVar-1
	unit := func(number int) api.Clause { return of(yes(fn("k", v(number)), fn("a"))) }
	goal := func(number int) api.Clause { return of(atom(fn("@p", fn("k", v(number))))) }
	beside := of(not(fn("@p", fn("k", fn("a"))), fn("$true")), not(fn("@q", v(1)), fn("$true")))
	wantLost(t, []lostCase{
		{"the last number", o, false, unit(last - 1), goal(0), 1, false}, {"one beyond it", o, false, unit(last - 1), goal(1), 0, true}, {"beyond it at once", o, false, unit(last), goal(0), 0, true},
		{"into alone has it", o, false, of(yes(fn("k", fn("a")), fn("a"))), goal(last), 1, false}, {"elsewhere in into", o, true, unit(last - 1), beside, 0, true}, {"elsewhere, but within", o, true, unit(last - 2), beside, 1, false},
		{"without a variable in into", o, false, unit(last), of(atom(fn("@p", fn("k", fn("a"))))), 1, false}, {"nothing fits", o, false, unit(last), of(atom(fn("@p", v(0)))), 0, false},
		{"both have it", o, false, unit(last), goal(last), 0, true}, {"from is Neg", o, false, of(not(fn("k", v(last)), fn("a"))), goal(0), 0, false}, {"from has a selected one", o, true, append(unit(last), not(fn("a"), fn("a"))), goal(0), 0, false},
	})
	l, _ := Super(o, false, unit(last-1), goal(0))
	want(t, "Super at the last number", l, false, "0L 0L [0] {} {0:X999998} @p(a)", false)
	l, _ = Super(o, true, unit(last-2), beside)
	want(t, "Super elsewhere", l, false, "0L 0L [0] {999997:a} {1:X999999} ~@p(a) | ~@q(X0)", false)
}

// Lost, P1602: a unifier or an instance that is too great, of a literal that may be resolved.
func TestResolveLost(t *testing.T) {
	a, o := fn("a"), lp("a f flat @p @q")
	pair := func(count int) api.Lit {
		from, into := doubling(count)
		into, _ = lits.Shift(into, 100)
		return not(from[0].L, into[0].L.Args[0])
	}
	grows := func(size int) api.Clause { return of(not(v(0), flat(size, a)), atom(fn("@q", many(3, v(0))...))) }
	deepens := func(depth int) api.Clause { return of(not(v(0), chain(depth, a)), atom(fn("@p", fn("f", v(0))))) }
	clash := pair(6)
	clash.L.Args, clash.R.Args = append(clash.L.Args, a), append(clash.R.Args, fn("b"))
	for _, c := range []struct {
		what  string
		sel   bool
		in    api.Clause
		steps int
		lost  bool
	}{
		{"a great unifier", false, of(pair(4)), 1, false}, {"a unifier that is too great", false, of(pair(6)), 0, true}, {"no unifier", false, of(clash), 0, false},
		{"selected", true, of(atom(fn("@p", a)), pair(6)), 0, true}, {"not selected", true, of(not(a, a), pair(6)), 1, false}, {"both", false, of(not(a, a), pair(6)), 1, true},
		{"not Neg", false, of(yes(pair(6).L, pair(6).R)), 0, false},
		{"an instance as great as may be", true, grows(799), 1, false}, {"one that is too great", true, grows(800), 0, true}, {"one as deep as may be", true, deepens(58), 1, false}, {"one that is too deep", true, deepens(59), 0, true},
		{"not Maximal", false, grows(799), 0, false}, {"too great to tell", false, grows(800), 0, true},
	} {
		l, lost := Resolve(o, c.sel, c.in)
		count(t, "Resolve: "+c.what, l, lost, c.steps, c.lost)
	}
}

// Lost, P1603: a unifier or an instance that is too great, or a clause.
func TestFactorLost(t *testing.T) {
	a, o := fn("a"), lp("a f flat k @p @q")
	pair := func(count int) api.Clause {
		from, into := doubling(count)
		into, _ = lits.Shift(into, 100)
		return of(yes(from[0].L, fn("b")), yes(into[0].L.Args[0], fn("c")))
	}
	grows := func(size int) api.Clause {
		return of(atom(fn("@q", v(0))), atom(fn("@q", flat(size, a))), not(fn("@p", v(0)), fn("$true")))
	}
	deepens := func(depth int) api.Clause {
		return of(atom(fn("@q", v(0))), atom(fn("@q", chain(depth, a))), not(fn("@p", fn("f", v(0))), fn("$true")))
	}
	twice := func(size int) api.Clause {
		return of(yes(fn("k", v(0)), fn("f", v(1))), yes(fn("k", a), flat(size, v(2))))
	}
	for _, c := range []struct {
		what  string
		sel   bool
		in    api.Clause
		steps int
		lost  bool
	}{
		{"a great unifier", false, pair(4), 1, false}, {"a unifier that is too great", false, pair(6), 0, true}, {"one of three", false, append(pair(6), yes(pair(6)[0].L, fn("d"))), 1, true},
		{"Neg", false, of(not(pair(6)[0].L, a), pair(6)[1]), 0, false}, {"with a selected one", true, append(pair(6), not(a, a)), 0, false}, {"with one that is Neg", false, append(pair(6), not(a, a)), 0, true},
		{"an instance as great as may be", false, grows(1331), 2, false}, {"one that is too great", false, grows(1332), 0, true}, {"as deep as may be", false, deepens(58), 2, false}, {"too deep", false, deepens(59), 0, true},
		{"a clause as great as may be", false, twice(1998), 2, false}, {"one that is too great", false, twice(1999), 1, true},
	} {
		l, lost := Factor(o, c.sel, c.in)
		count(t, "Factor: "+c.what, l, lost, c.steps, c.lost)
	}
}
