package simplify

import (
	"math"
	"slices"
	"strings"
	"testing"

	"assize/api"
	"assize/kbo"
	"assize/lits"
	"assize/multi"
)

// rewriteCase: the units, with the numbers 10, 11, .., the clause, and the steps as sayStep says them; nothing is lost.
type rewriteCase struct {
	o               multi.Order
	units, c, steps string
}

func wantSteps(t *testing.T, cases []rewriteCase) {
	t.Helper()
	for _, c := range cases {
		want(t, c.o, unitsOf(t, c.units), read(t, c.c), c.steps, false)
	}
}

// P1702: which places can be rewritten: no variables, and the whole of a side that is not Neg only if it is Less.
func TestRewritePlaces(t *testing.T) {
	o := kb("a b c")
	wantSteps(t, []rewriteCase{
		{o, "f(X0)=X0", "@p(f(f(a)))", "10L 0L [0] {0:f(a)} @p(f(a)); 10L 0L [0] {0:a} @p(a)"},
		{o, "b=a", "@p(b)", "10L 0L [0] {} @p(a)"},
		{o, "b=a", "@p(c)", ""},
		{o, "b=a", "0", ""},
		{o, "b=a", "b=c", "10L 0L [] {} a=c"},
		{o, "b=a", "c=b", "10L 0R [] {} c=a"},
		{o, "b=a", "b=a", ""},
		{o, "b=a", "a=b", ""},
		{o, "b=a", "b=b", ""},
		{o, "b=a", "b=X0", ""},
		{o, "b=a", "X0=b", ""},
		{o, "b=a", "f(X0)=b", "10L 0R [] {} f(X0)=a"},
		{o, "b=a", "f(f(a))=b", "10L 0R [] {} f(f(a))=a"},
		{o, "c=b", "c!=f(c)", "10L 0L [] {} b!=f(c); 10L 0R [0] {} b!=f(b)"},
		{o, "b=a", "b!=a", "10L 0L [] {} a!=a"},
		{o, "b=a", "X0!=b", "10L 0R [] {} X0!=a"},
		{o, "b=a", "b!=b", "10L 0L [] {} a!=b; 10L 0R [] {} a!=a"},
		{o, "f(X0)=X0", "f(f(a))=f(a)", "10L 0L [0] {0:a} f(a)=f(a)"},
		{o, "f(X0)=X0", "f(a)=a", ""},
		{o, "f(X0)=a", "f(b)=f(c)", "10L 0L [] {0:b} a=f(c)"},
		{o, "f(X0)=a", "f(c)=f(b)", "10L 0R [] {0:b} f(c)=a"},
		{o, "f(X0)=a", "f(X0)=f(X1)", ""},
		{o, "X0=a", "f(X0)=f(f(b))", "10L 0R [0] {0:f(b)} f(X0)=f(a)"},
		{o, "X0=a", "f(X0)=f(f(X0))", "10L 0L [] {0:f(X0)} a=f(f(X0)); 10L 0R [0] {0:f(X0)} a=f(a)"},
		{o, "X0=a", "@p(X3)", ""},
		{o, "X0=a", "@p(a)", ""},
		{o, "X0=a", "X0=X1", ""},
	})
}

// P1702: atoms and other truths: whole ones where they are Neg or Less, and $true never.
func TestRewriteTruths(t *testing.T) {
	o := kb("a b c @p @q")
	wantSteps(t, []rewriteCase{
		{o, "@p(X0)", "@p(a)", ""},
		{o, "@p(X0)", "$true=@p(a)", ""},
		{o, "@p(X0)", "~@p(a)", "10L 0L [] {0:a} $true!=$true"},
		{o, "$true=@p(X0)", "~@p(a)", "10R 0L [] {0:a} $true!=$true"},
		{o, "@p(X0)", "$true!=@p(X3)", "10L 0R [] {0:X3} $true!=$true"},
		{o, "@p(X0)", "@p(a)=@q(a,a)", "10L 0L [] {0:a} $true=@q(a,a)"},
		{o, "@p(X0)", "@q(a,a)=@p(a)", "10L 0R [] {0:a} @q(a,a)"},
		{o, "@p(X0)=@q(X0,X0)", "~@q(b,b)", "10R 0L [] {0:b} ~@p(b)"},
		{o, "@q(X0,X1)=@p(X1)", "~@q(a,X0) | @q(b,c)", "10L 0L [] {0:a,1:X0} ~@p(X0) | @q(b,c)"},
		{o, "@p(X0)=@p(X1)", "~@p(b) | @p(b)=@q(a,a)", ""},
		{o, "@p(X0)=@p(a)", "~@p(b) | @p(b)=@q(a,a)", "10L 0L [] {0:b} ~@p(a) | @p(b)=@q(a,a); 10L 1L [] {0:b} ~@p(a) | @p(a)=@q(a,a)"},
		{o, "X0=a", "@p(a)", ""},
		{o, "X0=a", "~@p(a)", ""},
		{o, "X0=a", "~@p(f(b))", "10L 0L [0] {0:f(b)} ~@p(a)"},
		{o, "a=X0", "@p(b)=@q(a,c)", "10R 0L [0] {0:b} @p(a)=@q(a,c); 10R 0R [1] {0:c} @p(a)=@q(a,a)"},
		{o, "X0=X1", "@p=@q | ~@r | $true!=$true", ""},
		{o, "X0=X0", "~@r | ~@p(b)", ""},
		{o, "$true=$true", "~@p(a) | $true!=$true | $true=$true", ""},
		{multi.Order{}, "@r=@s", "~@r | ~@s", "10R 1L [] {} ~@r | ~@r"},
		{lp("@s @r"), "@r=@s", "~@r | ~@s", "10L 0L [] {} ~@s | ~@s"},
	})
}

// P1702: the first literal, its side 0 ahead of 1, the whole ahead of its parts, these from the left.
func TestRewriteFirstPlace(t *testing.T) {
	o := kb("a b c")
	wantSteps(t, []rewriteCase{
		{o, "f(X0)=X0", "@p(a) | f(a)!=f(b) | @p(f(c))", "10L 1L [] {0:a} @p(a) | a!=f(b) | @p(f(c)); 10L 1R [] {0:b} @p(a) | a!=b | @p(f(c)); 10L 2L [0] {0:c} @p(a) | a!=b | @p(c)"},
		{o, "f(X0)=X0", "@q(f(a),f(f(b)))", "10L 0L [0] {0:a} @q(a,f(f(b))); 10L 0L [1] {0:f(b)} @q(a,f(b)); 10L 0L [1] {0:b} @q(a,b)"},
		{o, "b=a; g(X0,X1)=X0", "@q(g(b,c),b)", "11L 0L [0] {0:b,1:c} @q(b,b); 10L 0L [0] {} @q(a,b); 10L 0L [1] {} @q(a,a)"},
		{o, "b=a", "@q(g(c,b),b)", "10L 0L [0 1] {} @q(g(c,a),b); 10L 0L [1] {} @q(g(c,a),a)"},
		{o, "b=a", "@p(g(f(b),g(c,f(f(b)))))", "10L 0L [0 0 0] {} @p(g(f(a),g(c,f(f(b))))); 10L 0L [0 1 1 0 0] {} @p(g(f(a),g(c,f(f(a)))))"},
		{o, "c=b; b=a", "@q(b,c)", "11L 0L [0] {} @q(a,c); 10L 0L [1] {} @q(a,b); 11L 0L [1] {} @q(a,a)"},
		{o, "f(b)=b; f(a)=b; b=a", "@p(f(b))", "10L 0L [0] {} @p(b); 12L 0L [0] {} @p(a)"},
	})
}

// P1702: the first unit of the list, its side 0 ahead of 1, whose instance is Greater.
func TestRewriteFirstUnit(t *testing.T) {
	o := kb("a b c")
	wantSteps(t, []rewriteCase{
		{o, "c=b; c=a", "@p(c)", "10L 0L [0] {} @p(b)"},
		{o, "c=a; c=b", "@p(c)", "10L 0L [0] {} @p(a)"},
		{o, "a=b; c=c; c=a; c=a", "@p(c)", "12L 0L [0] {} @p(a)"},
		{o, "a=b", "@p(b)", "10R 0L [0] {} @p(a)"},
		{o, "a=b", "@p(a)", ""},
		{o, "f(X0)=f(f(X0))", "@p(f(f(f(a))))", "10R 0L [0] {0:f(a)} @p(f(f(a))); 10R 0L [0] {0:a} @p(f(a))"},
		{o, "g(X0,X1)=g(X1,X0)", "@p(g(b,a))", "10L 0L [0] {0:b,1:a} @p(g(a,b))"},
		{o, "g(X0,a)=g(a,X0)", "@p(g(b,a))", "10L 0L [0] {0:b} @p(g(a,b))"},
		{o, "g(a,X0)=g(X0,a)", "@p(g(b,a))", "10R 0L [0] {0:b} @p(g(a,b))"},
		{o, "g(X0,X1)=g(X1,X0)", "@p(g(X3,X2))", ""},
		{o, "g(X0,X1)=g(X1,X0)", "@p(g(f(X3),X3))", "10L 0L [0] {0:f(X3),1:X3} @p(g(X0,f(X0)))"},
		{o, "g(X0,X1)=X1; g(X0,X1)=X0", "@p(g(b,a))", "10L 0L [0] {0:b,1:a} @p(a)"},
		{o, "g(X0,X0)=a; g(X0,b)=b", "@q(g(b,b),g(c,b))", "10L 0L [0] {0:b} @q(a,g(c,b)); 11L 0L [1] {0:c} @q(a,b)"},
		{o, "X0=b; b=a", "@p(f(c))", "10L 0L [0] {0:f(c)} @p(b); 11L 0L [0] {} @p(a)"},
		{o, "X0=X1", "@p(c)", ""},
		{lp("a f g"), "g(X0,X0)=f(f(f(f(X0))))", "@p(g(a,a))", "10L 0L [0] {0:a} @p(f(f(f(f(a)))))"},
		{kb("a f g"), "g(X0,X0)=f(f(f(f(X0))))", "@p(g(a,a))", ""},
		{multi.Order{G: kbo.Sign{Names: []string{"a", "b"}, Weights: []int{5}}}, "b=a", "@p(b) | @p(a)", "10R 1L [0] {} @p(b) | @p(b)"},
	})
	list := []Unit{{Id: -3, C: read(t, "c=b")}, {Id: -3, C: read(t, "c=a")}, {Id: math.MaxInt, C: read(t, "b=a")}}
	want(t, o, list, read(t, "@p(c)"), "-3L 0L [0] {} @p(b); 9223372036854775807L 0L [0] {} @p(a)", false)
}

// P1702: what stands for the unit's variables, which may have the numbers of the clause's.
func TestRewriteBinds(t *testing.T) {
	o := kb("a b c h f")
	wantSteps(t, []rewriteCase{
		{o, "f(X0)=X0", "@p(f(X0))", "10L 0L [0] {} @p(X0)"},
		{o, "f(X0)=X0", "@p(f(X5))", "10L 0L [0] {0:X5} @p(X0)"},
		{o, "g(X0,X1)=X1", "@q(X4,g(X1,X0))", "10L 0L [1] {0:X1,1:X0} @q(X0,X1)"},
		{o, "g(X0,X1)=X0", "@q(X1,g(X0,f(X1)))", "10L 0L [1] {1:f(X1)} @q(X0,X1)"},
		{o, "g(X7,X2)=X7", "@p(g(g(a,X7),X2))", "10L 0L [0] {7:g(a,X7)} @p(g(a,X0)); 10L 0L [0] {2:X0,7:a} @p(a)"},
		{o, "g(X0,X0)=X0", "@p(g(f(X1),f(X1)))", "10L 0L [0] {0:f(X1)} @p(f(X0))"},
		{o, "g(X0,X0)=X0", "@p(g(X1,X0))", ""},
		{o, "g(X0,X0)=X0", "@p(g(X0,f(X0)))", ""},
		{o, "g(a,X0)=X0", "@p(g(X0,a))", ""},
		{o, "f(X0)=h(X1)", "@q(X0,f(X1))", "10L 0L [1] {0:X1} @q(X0,h(X1))"},
		{o, "f(X0)=h(X1)", "@q(X0,f(X0))", ""},
		{o, "f(X0)=h(X1)", "@q(X1,f(a))", ""},
		{o, "f(X0)=h(X1)", "@q(f(X1),f(X1))", "10L 0L [0] {0:X1} @q(h(X0),f(X0))"},
		{o, "X0=X1", "@p(f(X1))", "10L 0L [0] {0:f(X1)} @p(X0)"},
		{o, "X0=X1", "@p(f(X0))", "10R 0L [0] {1:f(X0)} @p(X0)"},
	})
}

// P1702: the clause of each step is normal, and the next step is of that one.
func TestRewriteNormal(t *testing.T) {
	o := kb("a b c")
	wantSteps(t, []rewriteCase{
		{o, "b=a", "@q(X5,X3) | @p(X3) | X5=b | X9!=b", "10L 3R [] {} @q(X0,X1) | @p(X1) | X0=b | X2!=a"},
		{o, "g(X0,X1)=X1; b=a", "@q(g(X4,X2),X4) | @q(X2,b)", "10L 0L [0] {0:X4,1:X2} @q(X0,X1) | @q(X0,b); 11L 1L [1] {} @q(X0,X1) | @q(X0,a)"},
		{o, "g(X0,X1)=X1", "@q(g(X3,g(X7,X2)),X7)", "10L 0L [0] {0:X3,1:g(X7,X2)} @q(g(X0,X1),X0); 10L 0L [0] {} @q(X0,X1)"},
		{o, "b=a", "@p(X5)", ""},
	})
	last := api.MaxVar - 1
	want(t, o, []Unit{{Id: 1, C: of(yes(fn("g", v(last), v(0)), v(0)))}}, of(atom(fn("@q", fn("g", v(0), v(last)), v(last-1)))), "1L 0L [0] {0:X999999,999999:X0} @q(X0,X1)", false)
}

// P1702: units that are none are passed over, and so are the sides $true.
func TestRewriteNoUnits(t *testing.T) {
	o, c := kb("a b c"), read(t, "@p(f(c)) | ~@r")
	good := Unit{Id: 7, C: read(t, "c=b")}
	bad := []Unit{{Id: 1}, {Id: 2, C: api.Clause{}}, {Id: 3, C: read(t, "c!=a")}, {Id: 4, C: read(t, "c=a | c=a")}, {Id: 5, C: read(t, "c=a | @r")}, {Id: 6, C: read(t, "~@r")}}
	for i, wrong := range wrongClauses(t) {
		bad = append(bad, Unit{Id: 100 + i, C: wrong}, Unit{Id: 200 + i, C: wrong[:1]})
	}
	for _, text := range []string{"c=f(@r)", "f(c)=$true", "X0=@r", "@r=X0", "@p(f(c))=a", "f(X0)=@s", "c=f($true)"} {
		bad = append(bad, Unit{Id: 300, C: read(t, text)})
	}
	for _, r := range []api.Term{v(-1), v(api.MaxVar), {Var: 1, Fn: "a"}, {Args: []api.Term{fn("a")}}, fn(strings.Repeat("a", api.MaxName+1))} {
		bad = append(bad, Unit{Id: 400, C: of(yes(fn("f", fn("c")), r))}, Unit{Id: 401, C: of(yes(fn("f", r), fn("a")))})
	}
	bad = slices.DeleteFunc(bad, func(u Unit) bool { return len(u.C) == 1 && !u.C[0].Neg && modelRight(u.C) })
	if len(bad) < 60 {
		t.Fatalf("only %d", len(bad))
	}
	want(t, o, bad, c, "", false)
	want(t, o, append(bad, good), c, "7L 0L [0 0] {} @p(f(b)) | ~@r", false)
	want(t, o, append([]Unit{good}, bad...), c, "7L 0L [0 0] {} @p(f(b)) | ~@r", false)
	for i, u := range bad {
		want(t, o, []Unit{u, good}, c, "7L 0L [0 0] {} @p(f(b)) | ~@r", false)
		if l, lost := Rewrite(o, []Unit{u}, c); len(l) > 0 || lost {
			t.Errorf("by the wrong unit %d: %s", i, saySteps(l))
		}
	}
	want(t, o, nil, c, "", false)
}

// wrongOrders: of signatures that are not right.
func wrongOrders() []multi.Order {
	var list []multi.Order
	for _, g := range []kbo.Sign{
		{Names: []string{""}}, {Names: []string{"$true"}}, {Names: []string{"a", "b", "a"}}, {Weights: []int{1}}, {Names: []string{"a"}, Weights: []int{0}}, {Names: []string{"a"}, Weights: []int{1001}},
		{Names: []string{"a"}, Weights: []int{1, 1}}, {Names: many(201, "a")},
	} {
		list = append(list, multi.Order{G: g}, multi.Order{Path: true, G: g})
	}
	return list
}

// P1702: of clauses that are not right or not sorted, and of orders that are not right, nothing.
func TestRewriteWrong(t *testing.T) {
	units := unitsOf(t, "a=b; b=a; f(X0)=X0; X0=b; @p(X0)")
	for i, wrong := range wrongClauses(t) {
		for _, o := range []multi.Order{kb("b a"), lp("b a")} {
			for _, l := range [][]Unit{units, nil, {{Id: 1, C: wrong}}} {
				if steps, lost := Rewrite(o, l, wrong); len(steps) > 0 || lost {
					t.Errorf("wrong clause %d: %s, %v", i, saySteps(steps), lost)
				}
			}
		}
	}
	for i, o := range wrongOrders() {
		for _, c := range []string{"@p(f(a))", "~@p(f(f(b)))", "0"} {
			if steps, lost := Rewrite(o, units, read(t, c)); len(steps) > 0 || lost {
				t.Errorf("wrong order %d: %s, %v", i, saySteps(steps), lost)
			}
		}
	}
}

// P1702: 200 steps, and one more that would come.
func TestRewriteSteps(t *testing.T) {
	units := unitsOf(t, "f(X0)=X0; b=a")
	// so many f, not too deep, in two literals
	tower := func(count int) api.Clause {
		var c api.Clause
		for count > 0 {
			some := min(count, 50)
			c = append(c, atom(fn("@p", chain(some+1, fn("c")))))
			count -= some
		}
		return append(c, atom(fn("@p", fn("c"))))
	}
	for _, c := range []struct {
		count, steps int
		lost         bool
	}{{0, 0, false}, {1, 1, false}, {199, 199, false}, {200, 200, false}, {201, 200, true}, {202, 200, true}, {400, 200, true}} {
		for name, a := range rewrites(kb("a b c"), units, tower(c.count)) {
			if len(a.steps) != c.steps || a.lost != c.lost {
				t.Errorf("%s of %d: %d steps, %v", name, c.count, len(a.steps), a.lost)
				continue
			}
			if c.steps > 0 && lits.Size(a.steps[c.steps-1].C) != lits.Size(tower(c.count))-c.steps {
				t.Errorf("%s of %d ends with %s", name, c.count, say(a.steps[c.steps-1].C))
			}
		}
	}
	// the step that would be one more need not be right
	grows := append(unitsOf(t, "f(X0)=X0"), Unit{Id: 9, C: of(yes(fn("k"), flat(3000, fn("a"))))})
	for name, a := range rewrites(lp("a flat k"), grows, append(tower(200), atom(fn("@q", flat(1500, fn("a")), fn("k"))))) {
		if len(a.steps) != 200 || !a.lost {
			t.Errorf("%s: %d steps, %v", name, len(a.steps), a.lost)
		}
	}
}

// P1702: what would come at a limit, and beyond it: then it ends, and is lost, though another place or unit would be left.
func TestRewriteLost(t *testing.T) {
	a, o := fn("a"), lp("a b f flat k3 k @p @q")
	grows := of(yes(fn("k", v(0)), fn("k3", many(3, v(0))...)))
	deepens := of(yes(fn("k", v(0)), chain(20, v(0))))
	one := func(t api.Term) api.Clause { return of(atom(fn("@p", t))) }
	deep := func(depth int) api.Clause { return one(chain(depth, fn("k", a))) }
	beside := func(size int) api.Clause {
		return of(atom(fn("@p", fn("k", flat(1000, a)))), not(flat(size, a), fn("b")))
	}
	for _, c := range []struct {
		what  string
		unit  api.Clause
		c     api.Clause
		steps int
		lost  bool
	}{
		{"as great as may be", grows, one(fn("k", flat(1332, a))), 1, false}, {"a clause that is too great", grows, one(fn("k", flat(1333, a))), 0, true},
		{"as great as may be beside another one", grows, beside(996), 1, false}, {"too great beside another one", grows, beside(997), 0, true},
		{"as deep as may be", deepens, deep(40), 1, false}, {"too deep", deepens, deep(41), 0, true},
		{"in a great clause", of(yes(fn("b"), a)), beside(2996), 2, false},
		{"great behind a step", grows, of(not(fn("k", a), a), not(fn("k", flat(1332, a)), a)), 1, true}, {"not so great behind a step", grows, of(not(fn("k", a), a), not(fn("k", flat(1331, a)), a)), 2, false},
	} {
		if lits.Right(c.c) != api.OK {
			t.Fatalf("%s: not right", c.what)
		}
		for name, got := range rewrites(o, []Unit{{Id: 1, C: c.unit}, {Id: 2, C: of(yes(fn("k", v(0)), v(0)))}}, c.c) {
			if len(got.steps) != c.steps || got.lost != c.lost {
				t.Errorf("%s, %s: %d steps, %v, not %d, %v", name, c.what, len(got.steps), got.lost, c.steps, c.lost)
			}
			for _, s := range got.steps {
				if lits.Right(s.C) != api.OK {
					t.Errorf("%s, %s: not right", name, c.what)
				}
			}
		}
	}
}

// P1702: an instance that is itself no right term is not told to be less, so the next unit is tried, and nothing is lost.
func TestRewriteInstance(t *testing.T) {
	a, o := fn("a"), lp("a b f flat k3 k @p @q")
	grows := of(yes(fn("k", v(0)), fn("k3", many(3, v(0))...)))
	deepens := of(yes(fn("k", v(0)), chain(20, v(0))))
	drops := Unit{Id: 2, C: of(yes(fn("k", v(0)), v(0)))}
	for what, c := range map[string]struct {
		unit api.Clause
		arg  api.Term
	}{"great": {grows, flat(1334, a)}, "greater": {grows, flat(3000, a)}, "deep": {deepens, chain(42, a)}, "deeper": {deepens, chain(57, a)}} {
		in := of(atom(fn("@p", fn("k", c.arg))))
		for name, got := range rewrites(o, []Unit{{Id: 1, C: c.unit}}, in) {
			if len(got.steps) > 0 || got.lost {
				t.Errorf("%s, %s: %d steps, %v", name, what, len(got.steps), got.lost)
			}
		}
		for name, got := range rewrites(o, []Unit{{Id: 1, C: c.unit}, drops}, in) {
			if len(got.steps) != 1 || got.lost || got.steps[0].B != 2 || !lits.Equal(got.steps[0].C, of(atom(fn("@p", c.arg)))) {
				t.Errorf("%s, %s, with another unit: %d steps, %v", name, what, len(got.steps), got.lost)
			}
		}
	}
}
