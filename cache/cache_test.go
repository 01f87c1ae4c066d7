package cache

import (
	"math"
	"strconv"
	"testing"

	"assize/api"
	"assize/cnf"
	"assize/syntax"
)

// P2001: as many tenants and keys as can be, and one more.
func TestNew(t *testing.T) {
	for _, c := range []struct {
		tenants, most int
		want          api.Errno
	}{
		{1, 1, api.OK}, {16, 1, api.OK}, {1, 10000, api.OK}, {16, 10000, api.OK}, {api.MaxTenants, 7, api.OK},
		{0, 1, api.ErrArg}, {1, 0, api.ErrArg}, {17, 1, api.ErrArg}, {1, 10001, api.ErrArg}, {-1, 5, api.ErrArg}, {5, -1, api.ErrArg}, {0, 0, api.ErrArg}, {17, 10001, api.ErrArg},
		{math.MinInt, 1, api.ErrArg}, {math.MaxInt, 1, api.ErrArg}, {1, math.MinInt, api.ErrArg}, {1, math.MaxInt, api.ErrArg},
	} {
		got, err := New(c.tenants, c.most)
		if err != c.want || (got != nil) != (c.want == api.OK) {
			t.Errorf("New(%d, %d): error %d", c.tenants, c.most, int(err))
		}
	}
}

// P2001: the parts are empty, and there are just so many.
func TestNewIsEmpty(t *testing.T) {
	f := read(t, "p")
	for tenants := 1; tenants <= api.MaxTenants; tenants++ {
		c := made(t, tenants, 3)
		for tenant := range tenants {
			looks(t, c, tenant, []api.Formula{f, read(t, "$false"), {}}, "000", 0, 0)
		}
		fails(t, c, tenants, f, api.ErrArg)
		for tenant := range tenants {
			takes(t, c, tenant, f)
			looks(t, c, tenant, []api.Formula{f}, "1", 1, 1)
		}
	}
}

// P2002: the chapter's example.
func TestExample(t *testing.T) {
	c := made(t, 1, 1)
	p, q := read(t, "p"), read(t, "q")
	takes(t, c, 0, p)
	looks(t, c, 0, []api.Formula{p, q}, "10", 1, 1)
	takes(t, c, 0, q)
	looks(t, c, 0, []api.Formula{p, q}, "01", 1, 1)
}

// P2002: the clauses are cnf's with tag 0.
func TestClausesTag(t *testing.T) {
	c := made(t, 1, 10)
	for range 2 {
		if got := text(takes(t, c, 0, read(t, "! [X] : ? [Y] : r(X,Y)"))); got != `[+"@r"(""X0(),"$s1_0"(""X0()))="$true"()]` {
			t.Errorf("%s", got)
		}
		takes(t, c, 0, read(t, "((p & q & p & q & p) | (r & s & r & s & r))"))
		takes(t, c, 0, read(t, "$true"))
		takes(t, c, 0, read(t, "$false"))
	}
	looks(t, c, 0, []api.Formula{read(t, "$true"), read(t, "$false")}, "11", 4, 4)
}

// P2002: the errors, in order; nothing changes, also not which key was used last.
func TestClausesWrong(t *testing.T) {
	none := (*Cache)(nil)
	c := made(t, 2, 2)
	p, q, r := read(t, "p"), read(t, "q"), read(t, "$false")
	takes(t, c, 0, p)
	takes(t, c, 0, r)
	for name, f := range wrong(t) {
		_, want := cnf.Clauses(f, 0)
		if want == api.OK {
			t.Fatalf("%s is not wrong", name)
		}
		for range 2 {
			fails(t, c, 0, f, want)
			fails(t, c, 1, f, want)
		}
		for _, tenant := range []int{-1, 2, 3, math.MinInt, math.MaxInt} {
			fails(t, c, tenant, f, api.ErrArg)
			fails(t, none, tenant, f, api.ErrNil)
		}
		fails(t, none, 0, f, api.ErrNil)
		looks(t, c, 0, []api.Formula{p, q, r, f}, "1010", 2, 2)
		looks(t, c, 1, []api.Formula{p, q, r, f}, "0000", 0, 2)
	}
	for _, tenant := range []int{-1, 2, 3, math.MinInt, math.MaxInt} {
		fails(t, c, tenant, p, api.ErrArg)
		fails(t, c, tenant, q, api.ErrArg)
		fails(t, none, tenant, p, api.ErrNil)
	}
	takes(t, c, 0, q)
	looks(t, c, 0, []api.Formula{p, q, r}, "011", 2, 2)
}

// P2002: some of cnf's errors by their numbers, so that they are not asked of cnf alone.
func TestClausesErrors(t *testing.T) {
	c := made(t, 1, 1)
	for name, want := range map[string]api.Errno{
		"no kind": api.ErrArg, "no kids": api.ErrArg, "both": api.ErrArg, "name": api.ErrArg, "wide": api.ErrBig, "deep": api.ErrDeep,
		"free": api.ErrFree, "half free": api.ErrFree, "great": api.ErrBig, "many": api.ErrBig,
	} {
		fails(t, c, 0, wrong(t)[name], want)
	}
	looks(t, c, 0, nil, "", 0, 0)
	takes(t, c, 0, conjunction(api.MaxClauses))
	looks(t, c, 0, []api.Formula{conjunction(api.MaxClauses), conjunction(api.MaxClauses + 1)}, "10", 1, 1)
}

// P2002: the key that was not used for longest goes, not the one that came first; Has and wrong calls are no use.
func TestUsedLast(t *testing.T) {
	c := made(t, 1, 3)
	forms := []api.Formula{read(t, "p"), read(t, "q"), read(t, "r"), read(t, "s"), read(t, "u")}
	use := func(which int, marks string, count int) {
		t.Helper()
		takes(t, c, 0, forms[which])
		looks(t, c, 0, forms, marks, count, count)
	}
	use(0, "10000", 1)
	use(0, "10000", 1)
	use(1, "11000", 2)
	use(2, "11100", 3)
	use(0, "11100", 3) // q is the oldest one now
	use(0, "11100", 3)
	use(3, "10110", 3)
	for range 3 {
		c.Has(0, forms[2])
		c.Has(0, forms[0])
	}
	use(4, "10011", 3) // r went, though it was looked at last
	use(3, "10011", 3)
	use(1, "01011", 3) // p went: s was used behind u
	use(2, "01110", 3)
	use(0, "11100", 3)
}

// P2002: with most 1 the last one alone is there, also if it is used again.
func TestMostOne(t *testing.T) {
	c := made(t, 2, 1)
	p, q := read(t, "p"), read(t, "q")
	for range 3 {
		takes(t, c, 0, p)
		takes(t, c, 0, p)
		looks(t, c, 0, []api.Formula{p, q}, "10", 1, 1)
		takes(t, c, 0, q)
		takes(t, c, 0, q)
		looks(t, c, 0, []api.Formula{p, q}, "01", 1, 1)
	}
	looks(t, c, 1, []api.Formula{p, q}, "00", 0, 1)
}

// P2001, P2002: as many keys as a part can have, and one more.
func TestMostKeys(t *testing.T) {
	const most = 10000
	c := made(t, 2, most)
	form := func(i int) api.Formula { return pred("p", fn("c"+strconv.Itoa(i))) }
	for i := range most {
		takes(t, c, 0, form(i))
	}
	looks(t, c, 0, []api.Formula{form(0), form(1), form(most - 1), form(most)}, "1110", most, most)
	takes(t, c, 0, form(0))
	takes(t, c, 1, form(1))
	takes(t, c, 0, form(most))
	looks(t, c, 0, []api.Formula{form(0), form(1), form(2), form(most)}, "1011", most, most+1)
	for i := range most {
		takes(t, c, 0, form(most+1+i))
	}
	looks(t, c, 0, []api.Formula{form(0), form(most), form(most + 1), form(2 * most)}, "0011", most, most+1)
	looks(t, c, 1, []api.Formula{form(0), form(1)}, "01", 1, most+1)
}

// P2002, P2003: formulas have one key just if they differ by bound variables' names alone.
func TestKeys(t *testing.T) {
	c := made(t, 1, 100)
	for i, alike := range [][]string{
		{"! [X] : p(X)", "! [Y] : p(Y)", "! [X0] : p(X0)", "! [X1] : p(X1)"},
		{"? [X] : p(X)", "? [Zz_9] : p(Zz_9)"},
		{"! [X] : ! [Y] : r(X,Y)", "! [Y,X] : r(Y,X)", "! [X1,X0] : r(X1,X0)"},
		{"! [X] : ! [Y] : r(Y,X)", "! [Y,X] : r(X,Y)"},
		{"! [X] : ! [X] : r(X,X)", "! [Y] : ! [X] : r(X,X)"},
		{"! [X] : ! [Y] : r(X,X)", "! [Y] : ! [X] : r(Y,Y)"},
		{"p", "((p))"}, {"! [X] : p", "! [Y] : p"}, {"! [X,Y] : p"}, {"p(x)"}, {"x0 = y"}, {"y = x0"}, {"~ x0 = y", "x0 != y"}, {"~ x0 != y"},
		{"p & q"}, {"q & p"}, {"p | q"}, {"p => q"}, {"p <=> q"}, {"~ ~ p"}, {"$true"}, {"$false"}, {"p & (q & r)"}, {"p & q & r", "(p & q) & r"},
		{"p('a,b')"}, {"p(a,b)"}, {"p('a b')"}, {"'p(a)'"}, {"p(a)"}, {"'p & q'"}, {"p = q"}, {"'p = q'"}, {"'~ p'"}, {"~ p"},
		{"(! [X] : p(X) & ! [X] : q(X))", "(! [X] : p(X) & ! [Y] : q(Y))", "(! [X1] : p(X1) & ! [X0] : q(X0))"},
	} {
		for j, one := range alike {
			f := read(t, one)
			if got := c.Has(0, f); got != (j > 0) {
				t.Errorf("Has(%s) behind %d of %v: %v", one, j, alike, got)
			}
			takes(t, c, 0, f)
		}
		if c.Len(0) != i+1 || c.Stored() != i+1 {
			t.Errorf("%d keys behind %v", c.Len(0), alike)
		}
	}
}

// P2003: of formulas that are not right or not closed Has is false, also where the key of what Canon makes of them is there.
func TestHasWrong(t *testing.T) {
	c := made(t, 1, 5)
	takes(t, c, 0, read(t, "$false"))
	takes(t, c, 0, read(t, "$true"))
	takes(t, c, 0, read(t, "p"))
	for name, f := range wrong(t) {
		if c.Has(0, f) {
			t.Errorf("Has of %s", name)
		}
	}
	looks(t, c, 0, []api.Formula{read(t, "$false"), pred("p", fn("X")), of(api.FFalse, "X"), of(api.FFalse, "", read(t, "p"))}, "1000", 3, 3)
	if got := syntax.Show(syntax.Canon(pred("p", fn("X")))); got != "$false" {
		t.Fatalf("%s", got)
	}
}

// P2003: of no such tenant, and of nil, there is nothing.
func TestLooksOfNone(t *testing.T) {
	c, none := made(t, 3, 5), (*Cache)(nil)
	p := read(t, "p")
	for tenant := range 3 {
		takes(t, c, tenant, p)
	}
	for _, tenant := range []int{-1, -3, 3, 4, 16, math.MinInt, math.MaxInt} {
		if c.Has(tenant, p) || c.Len(tenant) != 0 {
			t.Errorf("tenant %d has something", tenant)
		}
	}
	for _, tenant := range []int{0, 1, -1, 16, math.MinInt, math.MaxInt} {
		if none.Has(tenant, p) || none.Len(tenant) != 0 {
			t.Errorf("tenant %d has something of nil", tenant)
		}
	}
	if none.Stored() != 0 || c.Stored() != 1 {
		t.Errorf("stored %d and %d", none.Stored(), c.Stored())
	}
}

// P2003: a key counts once in Stored, as long as one part has it.
func TestStored(t *testing.T) {
	c := made(t, 3, 1)
	forms := []api.Formula{read(t, "! [X] : p(X)"), read(t, "! [Y] : p(Y)"), read(t, "q"), read(t, "r")}
	for i, step := range []struct{ tenant, form, stored int }{
		{0, 0, 1}, {1, 1, 1}, {2, 0, 1}, {0, 2, 2}, {1, 2, 2}, {2, 1, 2}, {2, 3, 2}, {0, 0, 3}, {0, 3, 2}, {1, 3, 1}, {1, 3, 1}, {0, 1, 2}, {1, 0, 2}, {2, 1, 1},
	} {
		takes(t, c, step.tenant, forms[step.form])
		if got := c.Stored(); got != step.stored {
			t.Errorf("step %d: %d stored, not %d", i, got, step.stored)
		}
	}
}

// P2003: what no part has any more is not kept, and what one has is kept once for all.
func TestKept(t *testing.T) {
	c := made(t, 2, 1)
	p, q := read(t, "! [X] : p(X)"), read(t, "! [Y] : p(Y)")
	takes(t, c, 0, p)
	kept := c.entries[keyOf(p)]
	takes(t, c, 1, q)
	if now := c.entries[keyOf(q)]; now.parts != 2 || &now.clauses[0] != &kept.clauses[0] {
		t.Errorf("made anew for another tenant")
	}
	takes(t, c, 0, read(t, "r"))
	takes(t, c, 1, read(t, "r"))
	if len(c.entries) != 1 {
		t.Errorf("%d entries", len(c.entries))
	}
}
