package simplify

import (
	"math"
	"slices"
	"testing"
	"time"

	"assize/api"
	"assize/lits"
)

// wantSubsumes: of each first text the others that it subsumes, or not.
func wantSubsumes(t *testing.T, want bool, cases map[string][]string) {
	t.Helper()
	for c, list := range cases {
		for _, d := range list {
			if got := Subsumes(read(t, c), read(t, d)); got != want {
				t.Errorf("Subsumes(%s, %s): %v", c, d, got)
			}
		}
	}
}

// P1701: each literal becomes one of the other clause.
func TestSubsumes(t *testing.T) {
	wantSubsumes(t, true, map[string][]string{
		"0":                              {"0", "@p(a)", "a!=a", "X0=X1 | @p(X0)"},
		"@p(X0)":                         {"@p(X0)", "@p(X7)", "@p(a)", "@p(f(f(a)))", "@p(f(X0))", "@q(a,b) | @p(b)", "@p(a) | ~@p(b)"},
		"~@p(X3)":                        {"~@p(a)", "@p(a) | ~@p(b)"},
		"@q(X0,X0)":                      {"@q(X1,X1)", "@q(f(X0),f(X0))", "@q(a,b) | @q(b,b)"},
		"@q(X0,X1)":                      {"@q(X1,X0)", "@q(X0,X0)", "@q(X1,X1)", "@q(f(X1),X0)"},
		"X0=X1":                          {"a=b", "X1=X0", "X0=X0", "a=a", "@p(a) | f(X1)=b"},
		"X0=X0":                          {"a=a", "X1=X1", "f(a)=f(a)", "a=b | b=b"},
		"f(X0)!=a":                       {"f(b)!=a", "a!=f(X0)", "a=f(b) | a!=f(a)"},
		"@p(X0) | @p(X1)":                {"@p(a) | @p(b)", "@p(a) | @p(a)", "@p(X0) | @p(X1)", "@p(X1) | @r | @p(X0)"},
		"@p(X0) | ~@r":                   {"~@r | @p(b)", "~@s | @p(X0) | @r | ~@r"},
		"@p(X0) | @q(X0,b)":              {"@p(a) | @p(c) | @q(c,b)", "@q(a,b) | @q(c,b) | @p(c)", "@p(X1) | @p(X0) | @q(X0,b)"},
		"@q(X0,X1) | @q(X1,X2)":          {"@q(a,b) | @q(b,c)", "@q(b,c) | @q(a,b)", "@q(a,b) | @q(c,b) | @q(X0,a)", "@q(X0,X1) | @q(X1,X0)"},
		"X0=X1 | X1=X2":                  {"a=b | c=b", "b=a | b=c", "a=b | c=a", "a=a | a=a", "@p(a) | f(a)=X0 | b=f(a)"},
		"a=X0 | @p(X0) | ~@p(X1)":        {"~@p(b) | @p(f(a)) | f(a)=a", "a=a | ~@p(a) | @p(a)"},
		"@p(X0) | @p(X1) | @p(a) | X1=b": {"b=f(c) | @p(a) | @p(f(c)) | @p(X0)", "@p(a) | @p(a) | @p(a) | a=b", "@r | @p(a) | @p(b) | @p(c) | @p(X0) | X0=X1 | X0=b"},
		"@p(a)=@p(X0)":                   {"@p(b)=@p(a)", "@p(a)=@p(b)"},
		"@r":                             {"@r", "$true=@r"},
	})
}

// P1701: nothing does, or two would be one, or a variable would be two things.
func TestSubsumesNot(t *testing.T) {
	wantSubsumes(t, false, map[string][]string{
		"@p(a)":                          {"0", "@p(X0)", "@p(b)", "~@p(a)", "@q(a,a)", "@p(f(a))", "@p(a,a)", "@r"},
		"~@p(X0)":                        {"@p(a)", "~@q(a,b)"},
		"@q(X0,X0)":                      {"@q(X0,X1)", "@q(a,b)", "@q(X0,a)", "@q(a,X0)"},
		"@q(X0,X1) | @q(X1,X2)":          {"@q(a,b) | @q(c,b)", "@q(a,a)", "@q(X0,X1) | @q(X0,X1)", "@q(X0,X1) | @q(X2,X1)"},
		"X0=X0":                          {"a=b", "X0=X1", "X0!=X0"},
		"a!=b":                           {"a=b", "b=a"},
		"f(X0)=X0":                       {"f(a)=b", "f(a)=f(a)", "f(X0)=X1", "X1=f(X0)"},
		"@p(X0) | @p(X0)":                {"@p(a)", "@p(a) | @p(b)", "@p(f(f(a)))", "@p(X0) | @p(X1)"},
		"@p(X0) | @p(X1)":                {"@p(a)", "@p(a) | ~@p(b)", "@p(X0)"},
		"@p(X0) | @q(X0,b)":              {"@p(X0) | @q(X1,b)", "@p(X1) | @q(X0,b)", "@p(a) | @q(b,b) | @p(c) | @q(X0,b)"},
		"X0=X1 | X1=X2":                  {"a=b", "a=b | c=d", "a=a | b=b"},
		"@p(X0) | @p(X1) | @p(X2)":       {"@p(a) | @p(b)", "@p(a) | @p(b) | ~@p(c) | @r"},
		"@p(X0) | @p(X1) | @p(a) | X1=b": {"b=f(c) | @p(b) | @p(f(c)) | @p(X0)", "b=f(c) | @p(a) | @p(c) | @p(b)", "b=a | @p(a) | @p(X0)"},
		"@p(a)=@p(X0)":                   {"@p(b)=@p(c)", "@p(a)=@r", "@p(a)!=@p(b)"},
		"@p(f(X0)) | @p(X0)":             {"@p(f(f(a))) | @p(a)", "@p(f(a)) | @p(b)", "@p(f(a)) | @p(f(a))", "@p(f(X0)) | @p(X1)", "@p(f(X1)) | @p(X0)"},
	})
}

// P1701: a variable stands for no truth term.
func TestSubsumesSorts(t *testing.T) {
	wantSubsumes(t, false, map[string][]string{
		"X0=X1":        {"@p(a)", "@p=@q", "$true=$true", "$true=@p", "~@p(a)", "@p | @q | a!=b"},
		"X0!=X1":       {"~@p(a)", "@p!=@q", "$true!=$true", "a=b"},
		"X0=X0":        {"$true=$true", "@p=@p"},
		"X0=X1 | @p":   {"@p | @p", "@p | @q"},
		"X0=X1 | X2=a": {"a=b | @p", "@p | a=a", "@p=$true | @q=@q"},
	})
	wantSubsumes(t, true, map[string][]string{"X0=X1": {"@p(a) | a=b"}, "X0=X1 | @p": {"@p | a=b", "@q | X0=X0 | @p"}, "X0!=X1": {"~@p | a!=X0"}})
}

// P1701: of more than four literals only what is the same but for the variables' names, literal by literal.
func TestSubsumesMany(t *testing.T) {
	four, five := "@p(X0) | @p(X1) | a=X0 | ~@r", "@p(X0) | @p(X1) | a=X0 | ~@r | @q(X0,X1)"
	wantSubsumes(t, true, map[string][]string{
		four: {four, "@p(X5) | @p(X2) | a=X5 | ~@r", "~@r | @p(b) | b=a | @p(c)", four + " | @s", "@s | @r | ~@r | @p(a) | a=a | @p(b)", five},
		five: {five, "@p(X4) | @p(X3) | a=X4 | ~@r | @q(X4,X3)", "@p(X1) | @p(X0) | a=X1 | ~@r | @q(X1,X0)"},
	})
	wantSubsumes(t, false, map[string][]string{five: {
		five + " | @s", "@s | " + five, "@p(a) | @p(X1) | a=a | ~@r | @q(a,X1)", "@p(X0) | @p(X0) | a=X0 | ~@r | @q(X0,X0)",
		"@p(X1) | @p(X0) | a=X0 | ~@r | @q(X0,X1)", "@p(X0) | @p(X1) | X0=a | ~@r | @q(X0,X1)", "@p(X0) | @p(X1) | ~@r | a=X0 | @q(X0,X1)", "@p(X0) | @p(X1) | a=X0 | @r | @q(X0,X1)", four, "0",
	}})
	ground := read(t, "@p(a) | @p(b) | @p(c) | a=b | b=c | c=a")
	sixty := slices.Repeat(ground, 10)
	if !Subsumes(ground, ground) || !Subsumes(sixty, sixty) || Subsumes(ground, sixty) || Subsumes(sixty, ground) || !Subsumes(ground[:4], sixty) || !Subsumes(nil, sixty) {
		t.Error("of six and sixty literals")
	}
}

// wrongClauses: that are not right, or not sorted, each in another way.
func wrongClauses(t *testing.T) []api.Clause {
	a := fn("a")
	list := []api.Clause{
		of(yes(v(-1), a)), of(yes(a, v(api.MaxVar))), of(yes(v(math.MaxInt), a)), of(not(a, v(math.MinInt))), of(yes(api.Term{Var: 1, Fn: "a"}, a)), of(yes(api.Term{Args: []api.Term{a}}, a)),
		of(yes(a, fn("f", many(api.MaxArgs+1, a)...))), of(yes(chain(api.MaxDepth+1, a), a)), of(not(a, chain(api.MaxDepth+1, v(0)))), of(yes(chain(1<<16, v(0)), a)), of(yes(flat(api.MaxNodes, a), a)), of(yes(flat(api.MaxNodes+1, a), a)),
		of(yes(flat(2000, a), a), not(flat(2000, v(0)), a)), many(api.MaxLits+1, yes(a, fn("b"))), of(yes(fn(string(make([]byte, api.MaxName+1))), a)),
	}
	for _, text := range []string{"a=$true", "X0=@p", "a!=@p(a)", "f(@p)=a", "@p(f($true))", "~@p(@q)", "@p=X0"} {
		list = append(list, read(t, text), read(t, text+" | @p(X0) | @p(X1) | a!=a"), read(t, "f(a)!=f(a) | @p(X0) | "+text), read(t, "@p(X0) | @p(X1) | a!=a | a!=a | "+text+" | b=c"))
	}
	return list
}

// P1701: of clauses that are not right or not sorted false, also where they are alike.
func TestSubsumesWrong(t *testing.T) {
	for i, wrong := range wrongClauses(t) {
		first := wrong[:1]
		for _, c := range []api.Clause{wrong, nil, wrong[:min(4, len(wrong))], first, read(t, "@p(X0)"), read(t, "X0=X1"), read(t, "X0!=X1")} {
			if Subsumes(c, wrong) {
				t.Errorf("wrong clause %d is subsumed by %d literals", i, len(c))
			}
		}
		if lits.Right(first) != api.OK && Subsumes(first, of(yes(fn("a"), fn("a")), not(fn("a"), fn("a")))) {
			t.Errorf("wrong clause %d subsumes", i)
		}
	}
	for c, d := range map[string]string{"X0=@p": "a=@p", "f(X0)=a": "f(@p)=a", "@p(X0)": "@p(@q)", "a=$true": "a=$true", "f(@p)=X0": "f(@p)=a", "@p(a) | X0=$true": "@p(a) | a=$true"} {
		if Subsumes(read(t, c), read(t, d)) {
			t.Errorf("%s subsumes %s", c, d)
		}
	}
}

// P1701: at the limits: as deep, as great, with as many literals and variables, and with numbers as great as may be.
func TestSubsumesLimits(t *testing.T) {
	a := fn("a")
	row := func(from, count int) []api.Term {
		var list []api.Term
		for i := range count {
			list = append(list, v(from+i))
		}
		return list
	}
	bundle := func(l []api.Term) api.Term {
		for len(l) > 1 {
			var up []api.Term
			for some := range slices.Chunk(l, api.MaxArgs) {
				up = append(up, fn("l", some...))
			}
			l = up
		}
		return l[0]
	}
	wide, last := bundle(row(0, 3700)), bundle(row(api.MaxVar-3700, 3700))
	spread := of(yes(wide, a))
	for i, pair := range [][2]api.Clause{
		{of(yes(chain(api.MaxDepth, v(0)), v(1))), of(yes(chain(api.MaxDepth, a), chain(api.MaxDepth, v(0))))}, {of(yes(v(0), a)), of(yes(a, flat(api.MaxNodes-1, a)))}, {of(yes(flat(api.MaxNodes-1, v(0)), a)), of(yes(flat(api.MaxNodes-1, v(1)), a))},
		{of(yes(flat(2000, v(0)), flat(1000, v(1))), not(v(0), v(2))), of(not(fn("f", v(1)), v(0)), yes(flat(1000, a), flat(2000, v(0))))}, {of(yes(flat(2000, v(0)), flat(1000, v(1))), not(v(0), v(2))), of(not(fn("f", v(1)), v(1)), yes(flat(1000, a), flat(2000, v(0))))},
		{spread, of(yes(last, a))}, {of(yes(last, a)), spread}, {spread, of(yes(bundle(slices.Repeat(row(7, 37), 100)), a))}, {of(yes(v(api.MaxVar-1), v(0))), of(yes(a, v(api.MaxVar-1)))},
	} {
		if lits.Right(pair[0]) != api.OK || lits.Right(pair[1]) != api.OK {
			t.Fatalf("pair %d is not right", i)
		}
		if want := i != 4; Subsumes(pair[0], pair[1]) != want {
			t.Errorf("pair %d: %v", i, !want)
		}
	}
	if Subsumes(of(yes(bundle(slices.Repeat(row(7, 37), 100)), a)), spread) {
		t.Error("variables became more")
	}
}

// P1701: clauses that could be gone through in very many ways are told soon.
func TestSubsumesSoon(t *testing.T) {
	edges := func(count int, edge func(i int) (api.Term, api.Term)) api.Clause {
		var c api.Clause
		for i := range count {
			l, r := edge(i)
			c = append(c, yes(l, r))
		}
		return c
	}
	name := func(kind string, i int) api.Term { return fn(kind, chain(1+i%8, fn("a")), chain(1+i/8, fn("b"))) }
	apart := edges(60, func(i int) (api.Term, api.Term) { return name("k", i), name("m", i) })
	star := edges(60, func(i int) (api.Term, api.Term) { return fn("a"), name("k", i) })
	sides := edges(56, func(i int) (api.Term, api.Term) { return name("k", i%7), name("m", i/7) })
	for _, c := range []struct {
		text string
		d    api.Clause
		want bool
	}{
		{"X0=X1 | X2=X3 | X4=X5 | X5=X6", apart, false}, {"X0=X1 | X2=X3 | X4=X5 | X6=X7", apart, true}, {"X0=X1 | X1=X2 | X2=X3 | X3=X4", apart, false}, {"X0=X1 | X2=X3 | X4=X5 | X6=X6", apart, false},
		{"X0=X1 | X1=X2 | X3=X4 | X4=f(X3)", star, false}, {"X0=X1 | X1=X2 | X1=X3 | X1=X4", star, true}, {"X0=X1 | X1=X2 | X2=X3 | X4=X5", star, false},
		{"X6=X7 | X0=X1 | X1=X2 | X2=X0", sides, false}, {"X0=X1 | X1=X2 | X2=X3 | X3=X0", sides, true}, {"X0=X1 | X1=X2 | X2=X3 | X3=X3", sides, false},
	} {
		began := time.Now()
		if got := Subsumes(read(t, c.text), c.d); got != c.want {
			t.Errorf("%s: %v", c.text, got)
		}
		if took := time.Since(began); took > 20*time.Second {
			t.Errorf("%s: took %v", c.text, took)
		}
	}
}
