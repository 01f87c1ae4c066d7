package infer

import (
	"math"
	"testing"

	"assize/api"
	"assize/kbo"
	"assize/multi"
)

// The words: truth terms beside truth terms, things beside things, and no truth as an argument.
func TestSorted(t *testing.T) {
	for _, in := range []string{
		"0", "a=b", "X0=X1", "X0!=f(a)", "@p(a)", "~@p(X0)", "$true=@p(a)", "@p(a)=@q(X0,b)", "@p!=@q", "$true=$true", "$true!=$true",
		"a=b | @p(f(X0)) | ~@q(a,f(f(b)))", "$false=a", "$s0_3(X0)=a", "f(p,q@)=a", "true=a", "$truer=a", "~@$d0_1(X0)", "@=@p",
	} {
		if c := read(t, in); !Sorted(c) {
			t.Errorf("Sorted(%s): false", in)
		}
	}
	for _, in := range []string{
		"a=$true", "$true=a", "X0=$true", "$true!=X0", "@p=a", "a=@p(a)", "X0!=@p(X0)", "@p=f($true)", "f(@p)=a", "a=f($true)", "~@p(@q)", "@p($true)", "@p(f(g(a,@q)))", "a=g(a,f(@p(a)))", "a!=f(f(f($true)))",
		"a=b | a=@p", "a=b | @p | b=f(@q) | a=b", "@p=@q(@r)", "@p=@q(f(a),f(@r))", "@p | $true=@p(b,$true)",
	} {
		if c := read(t, in); Sorted(c) {
			t.Errorf("Sorted(%s): true", in)
		}
	}
}

// Sorted is asked of clauses that are not right, too: great ones, and terms of no right shape.
func TestSortedAny(t *testing.T) {
	deep := chain(1<<16, fn("a"))
	for i, c := range []api.Clause{nil, of(), of(api.Lit{}), many(200, atom(fn("@p"))), of(yes(deep, v(-1))), of(yes(v(math.MaxInt), v(math.MinInt))), of(yes(flat(5000, v(1)), fn("a")))} {
		if !Sorted(c) {
			t.Errorf("clause %d is not sorted", i)
		}
	}
	for i, c := range []api.Clause{
		of(yes(chain(1<<16, fn("@p")), fn("a"))), append(many(200, yes(v(0), v(1))), yes(v(0), fn("@p"))), of(yes(api.Term{Args: []api.Term{fn("$true")}}, v(0))), of(yes(v(-1), fn("$true"))),
	} {
		if Sorted(c) {
			t.Errorf("clause %d is sorted", i)
		}
	}
}

// The words: the first literal that is Neg, with sel alone.
func TestSelected(t *testing.T) {
	for in, want := range map[string]int{
		"0": -1, "a=b": -1, "a!=b": 0, "@p | @q": -1, "@p | ~@q": 1, "~@p | ~@q": 0, "a=b | @p | b!=a | ~@p | a!=a": 2, "X0=$true | f(@p)!=a": 1, "$true!=$true | @p": 0,
	} {
		c := read(t, in)
		if got := Selected(true, c); got != want {
			t.Errorf("Selected(true, %s): %d, not %d", in, got, want)
		}
		if got := Selected(false, c); got != -1 {
			t.Errorf("Selected(false, %s): %d", in, got)
		}
	}
	far := append(many(500, yes(v(-1), v(-1))), not(v(-1), fn("@p")))
	if got := Selected(true, far); got != 500 {
		t.Errorf("Selected of a clause that is not right: %d", got)
	}
}

// wrongOrders: of signatures that are not right.
func wrongOrders() []multi.Order {
	var list []multi.Order
	for _, g := range []kbo.Sign{
		{Names: []string{""}}, {Names: []string{"$true"}}, {Names: []string{"a", "b", "a"}}, {Weights: []int{1}}, {Names: []string{"a"}, Weights: []int{0}}, {Names: []string{"a"}, Weights: []int{1001}},
		{Names: []string{"a"}, Weights: []int{1, 1}}, {Names: many(201, "a")},
	} {
		list = append(list, multi.Order{G: g}, multi.Order{Path: true, G: g})
	}
	return list
}

// wrongClauses: that are not right, or not sorted, each in another way; behind each one stands something of which much would follow.
func wrongClauses(t *testing.T) []api.Clause {
	a := fn("a")
	list := []api.Clause{
		many(api.MaxLits, yes(a, fn("b"))), of(yes(flat(api.MaxNodes-1, a), fn("b"))), of(yes(v(-1), a)), of(yes(a, v(api.MaxVar))), of(yes(v(math.MaxInt), a)), of(yes(api.Term{Var: 1, Fn: "a"}, a)), of(yes(api.Term{Args: of1(a)}, a)),
		of(yes(a, fn("f", many(api.MaxArgs+1, a)...))), of(yes(chain(api.MaxDepth+1, a), a)), of(not(a, chain(api.MaxDepth+1, v(0)))),
		read(t, "a=$true"), read(t, "X0=@p"), read(t, "a!=@p(a)"), read(t, "f(@p)=a"), read(t, "@p(f($true))"), read(t, "~@p(@q)"),
	}
	for i := range list {
		list[i] = append(list[i], read(t, "@p(X0) | @p(X1) | X0!=a")...)
	}
	return append(list, read(t, "a=$true"), of(yes(v(-1), a)))
}

func of1(t api.Term) []api.Term { return []api.Term{t} }

// P1604: nothing, false.
func TestWrong(t *testing.T) {
	from, into := read(t, "a=b"), read(t, "@p(a) | a!=a | @p(X0)")
	none := func(what string, i int, steps []api.Step, lost bool) {
		if len(steps) != 0 || lost {
			t.Errorf("%s %d: %d steps, %v", what, i, len(steps), lost)
		}
	}
	for i, wrong := range wrongClauses(t) {
		for _, o := range []multi.Order{kb(""), lp("b a"), kb("b a @p")} {
			for _, sel := range []bool{false, true} {
				steps, lost := Super(o, sel, from, wrong)
				none("into a wrong clause", i, steps, lost)
				steps, lost = Super(o, sel, wrong, into)
				none("from a wrong clause", i, steps, lost)
				steps, lost = Super(o, sel, wrong, wrong)
				none("both wrong clauses", i, steps, lost)
				steps, lost = Resolve(o, sel, wrong)
				none("Resolve of a wrong clause", i, steps, lost)
				steps, lost = Factor(o, sel, wrong)
				none("Factor of a wrong clause", i, steps, lost)
			}
		}
	}
	for i, o := range wrongOrders() {
		for _, sel := range []bool{false, true} {
			steps, lost := Super(o, sel, from, read(t, "@p(a)"))
			none("Super by a wrong order", i, steps, lost)
			steps, lost = Resolve(o, sel, read(t, "a!=a"))
			none("Resolve by a wrong order", i, steps, lost)
			steps, lost = Factor(o, sel, read(t, "@p(X0) | @p(X1)"))
			none("Factor by a wrong order", i, steps, lost)
		}
	}
}

// What is lost is not lost of clauses that are not right, or by a wrong order.
func TestWrongNotLost(t *testing.T) {
	from, into := doubling(6)
	if _, lost := Super(kb(""), false, from, into); !lost {
		t.Fatal("it is not too great")
	}
	spoilt := append(from[:1:1], read(t, "f(@p)=a")...)
	for i, c := range [][2]api.Clause{{spoilt, into}, {from, append(into[:1:1], read(t, "a=$true")...)}, {from, append(into[:1:1], yes(v(-1), v(0)))}} {
		if _, lost := Super(kb(""), false, c[0], c[1]); lost {
			t.Errorf("pair %d: lost", i)
		}
	}
	if _, lost := Super(wrongOrders()[0], false, from, into); lost {
		t.Error("lost by a wrong order")
	}
}
