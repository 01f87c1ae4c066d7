package lits

import (
	"fmt"
	"math"
	"math/rand"
	"slices"
	"strings"
	"testing"

	"assize/api"
	"assize/subst"
	"assize/term"
)

func v(number int) api.Term { return api.Term{Var: number} }

func f(name string, args ...api.Term) api.Term { return api.Term{Fn: name, Args: args} }

func yes(l, r api.Term) api.Lit { return api.Lit{L: l, R: r} }

func not(l, r api.Term) api.Lit { return api.Lit{Neg: true, L: l, R: r} }

func of(l ...api.Lit) api.Clause { return l }

func bind(number int, t api.Term) api.Bind { return api.Bind{Var: number, T: t} }

func binds(l ...api.Bind) []api.Bind { return l }

// chain: f(f(..(last))), so many parts within one another.
func chain(depth int, last api.Term) api.Term {
	t := last
	for range depth - 1 {
		t = f("f", t)
	}
	return t
}

// flat: of so many parts, no deeper than it must be, with leaf at each end.
func flat(size int, leaf api.Term) api.Term {
	if size == 1 {
		return leaf
	}
	count := min(api.MaxArgs, size-1)
	t := f("f")
	for i := range count {
		share := (size - 1) / count
		if i < (size-1)%count {
			share++
		}
		t.Args = append(t.Args, flat(share, leaf))
	}
	return t
}

// many: so many copies of a thing.
func many[T any](count int, t T) []T { return slices.Repeat([]T{t}, count) }

// wrongs: terms that are not right, each in another way, and Right's error.
func wrongs() ([]api.Term, []api.Errno) {
	bad := []api.Term{
		v(-1), v(api.MaxVar), v(math.MinInt), v(math.MaxInt),
		{Args: many(1, f("a"))}, {Var: 3, Args: many(2, v(1))}, {Var: 1, Fn: "a"},
		f(strings.Repeat("n", api.MaxName+1)), f("f", many(api.MaxArgs+1, v(0))...),
	}
	for _, t := range slices.Clone(bad) {
		bad = append(bad, f("g", f("a"), f("h", t)))
	}
	errnos := many(len(bad), api.ErrArg)
	bad = append(bad, chain(api.MaxDepth+1, f("a")), flat(api.MaxNodes+1, f("a")), chain(1<<16, v(1)))
	return bad, append(errnos, api.ErrDeep, api.ErrBig, api.ErrDeep)
}

// wrongClauses: clauses that are not right, each in another way.
func wrongClauses() []api.Clause {
	a := f("a")
	list := []api.Clause{many(api.MaxLits+1, yes(a, a)), of(yes(flat(api.MaxNodes, v(0)), a)), of(not(flat(2000, a), a), yes(v(0), flat(1999, v(1))))}
	bad, _ := wrongs()
	for _, t := range bad {
		list = append(list, of(yes(t, a)), of(not(a, a), not(a, t), yes(a, a)))
	}
	return list
}

// anyTerm: a right term of few names and variables, so that equal ones come often.
func anyTerm(r *rand.Rand, depth int) api.Term {
	if depth == 1 || r.Intn(3) == 0 {
		if r.Intn(2) == 0 {
			return f([]string{"a", "b", "@p", "$true"}[r.Intn(4)])
		}
		return v(r.Intn(5))
	}
	t := f([]string{"f", "g", "@q"}[r.Intn(3)])
	for range r.Intn(3) {
		t.Args = append(t.Args, anyTerm(r, depth-1))
	}
	return t
}

// anyClause: of few literals, some the other way round of one ahead of them, some its negation.
func anyClause(r *rand.Rand) api.Clause {
	var c api.Clause
	for range r.Intn(6) {
		l := api.Lit{Neg: r.Intn(2) == 0, L: anyTerm(r, 1+r.Intn(3)), R: anyTerm(r, 1+r.Intn(3))}
		if len(c) > 0 && r.Intn(2) == 0 {
			l = c[r.Intn(len(c))]
			l.Neg = l.Neg != (r.Intn(3) == 0)
		}
		if r.Intn(2) == 0 {
			l.L, l.R = l.R, l.L
		}
		c = append(c, l)
	}
	return c
}

// anySubst: a right substitution of few variables.
func anySubst(r *rand.Rand) []api.Bind {
	var s []api.Bind
	for number := range 6 {
		if t := anyTerm(r, 1+r.Intn(3)); r.Intn(2) == 0 && text(t) != text(v(number)) {
			s = append(s, bind(number, t))
		}
	}
	return s
}

// text: a term as a text that no other one has.
func text(t api.Term) string {
	var b strings.Builder
	fmt.Fprintf(&b, "%d %q(", t.Var, t.Fn)
	for _, arg := range t.Args {
		b.WriteString(text(arg) + ",")
	}
	return b.String() + ")"
}

// say: a clause as a text that no other one has.
func say(c api.Clause) string {
	var b strings.Builder
	for _, l := range c {
		fmt.Fprintf(&b, "%v %s = %s; ", l.Neg, text(l.L), text(l.R))
	}
	return b.String()
}

// heart: what a literal says of its sides, as a text that only those of the same sides have.
func heart(l api.Lit) string {
	sides := []string{text(l.L), text(l.R)}
	slices.Sort(sides)
	return strings.Join(sides, " = ")
}

// plainEach: the clause with each side as change makes it.
func plainEach(c api.Clause, change func(api.Term) api.Term) api.Clause {
	var d api.Clause
	for _, l := range c {
		d = append(d, api.Lit{Neg: l.Neg, L: change(l.L), R: change(l.R)})
	}
	return d
}

// plainApply: as the chapter on subst tells it, with no eye on limits.
func plainApply(s []api.Bind, t api.Term) api.Term {
	for _, b := range s {
		if t.Fn == "" && t.Var == b.Var {
			return b.T
		}
	}
	var args []api.Term
	for _, arg := range t.Args {
		args = append(args, plainApply(s, arg))
	}
	return api.Term{Var: t.Var, Fn: t.Fn, Args: args}
}

// plainNormal: by the binds of subst.Rename.
func plainNormal(c api.Clause) api.Clause {
	var sides []api.Term
	for _, l := range c {
		sides = append(sides, l.L, l.R)
	}
	s := subst.Rename(sides)
	return plainEach(c, func(t api.Term) api.Term { return plainApply(s, t) })
}

// P601: the words themselves.
func TestAtom(t *testing.T) {
	if got := True(); text(got) != text(f("$true")) {
		t.Errorf("True: %s", text(got))
	}
	for _, in := range []api.Term{f("@p"), f("@p", v(3), f("f", f("a"))), v(2), f("$true"), v(-1), {Var: 1, Fn: "a", Args: many(20, v(0))}} {
		if got := Atom(in); say(of(got)) != say(of(yes(in, f("$true")))) || !IsAtom(got) {
			t.Errorf("Atom(%s): %s, %v", text(in), say(of(got)), IsAtom(got))
		}
	}
}

// P601: True must stand at the right, whether the literal is Neg or not.
func TestIsAtom(t *testing.T) {
	p, top := f("@p", v(0)), f("$true")
	cases := []struct {
		in   api.Lit
		want bool
	}{
		{yes(p, top), true}, {not(p, top), true}, {yes(top, top), true}, {yes(v(1), top), true}, {yes(f("a"), api.Term{Fn: "$true", Args: []api.Term{}}), true},
		{yes(top, p), false}, {not(top, p), false}, {yes(p, p), false}, {yes(p, f("$true", v(0))), false}, {yes(p, f("$false")), false}, {yes(p, f("@true")), false},
		{yes(p, v(0)), false}, {yes(p, f("true")), false}, {yes(p, f("$true ")), false}, {yes(p, api.Term{Var: 1, Fn: "$true"}), false}, {api.Lit{}, false},
	}
	for _, c := range cases {
		if got := IsAtom(c.in); got != c.want {
			t.Errorf("IsAtom(%s): %v", say(of(c.in)), got)
		}
	}
}

// P601: both sides of each limit, and the first error where several apply.
func TestRight(t *testing.T) {
	a, deep, big, odd := f("a"), chain(api.MaxDepth+1, f("a")), flat(api.MaxNodes+1, f("a")), v(-1)
	full := many(api.MaxLits, not(a, v(0)))
	cases := []struct {
		what string
		in   api.Clause
		want api.Errno
	}{
		{"no list", nil, api.OK}, {"empty", of(), api.OK}, {"zero literal", make(api.Clause, 1), api.OK},
		{"as many literals as may be", full, api.OK}, {"one more", append(slices.Clone(full), yes(a, a)), api.ErrBig}, {"thousand", make(api.Clause, 1000), api.ErrBig},
		{"one more, and a term of no right shape", append(slices.Clone(full), yes(a, odd)), api.ErrBig}, {"the same at the first", slices.Concat(of(yes(odd, a)), full), api.ErrBig},
		{"one more, and too deep", append(slices.Clone(full), yes(deep, a)), api.ErrBig}, {"as many, one of no right shape", append(slices.Clone(full[1:]), yes(a, odd)), api.ErrArg},
		{"greatest by one side", of(yes(flat(api.MaxNodes-1, a), v(0))), api.OK}, {"one greater at the left", of(yes(flat(api.MaxNodes, a), v(0))), api.ErrBig},
		{"one greater at the right", of(yes(v(0), flat(api.MaxNodes, a))), api.ErrBig}, {"one greater by an atom", of(Atom(flat(api.MaxNodes, a))), api.ErrBig},
		{"greatest by many", many(50, yes(flat(41, a), flat(39, v(1)))), api.OK}, {"one greater by many", append(many(50, yes(flat(41, a), flat(39, v(1))))[1:], not(flat(41, a), flat(40, v(1)))), api.ErrBig},
		{"deepest", of(yes(chain(api.MaxDepth, a), chain(api.MaxDepth, v(0)))), api.OK},
		{"left too deep", of(yes(a, a), yes(deep, a)), api.ErrDeep}, {"right too deep", of(yes(a, a), not(a, deep)), api.ErrDeep}, {"side too great", of(yes(a, big)), api.ErrBig},
		{"left ahead of right: deep", of(yes(deep, odd)), api.ErrDeep}, {"left ahead of right: shape", of(yes(odd, deep)), api.ErrArg}, {"left ahead of right: great", of(yes(big, odd)), api.ErrBig},
		{"first literal: great", of(yes(a, big), yes(deep, odd)), api.ErrBig}, {"first literal: deep", of(yes(a, deep), yes(odd, big)), api.ErrDeep}, {"first literal: shape", of(yes(a, odd), yes(deep, big)), api.ErrArg},
		{"too great in all, last side of no right shape", of(yes(flat(3000, a), flat(3000, a)), yes(a, odd)), api.ErrArg}, {"too great in all, last side too deep", of(yes(flat(3000, a), flat(3000, a)), yes(a, deep)), api.ErrDeep},
	}
	for _, c := range cases {
		if got := Right(c.in); got != c.want {
			t.Errorf("%s: %d, not %d", c.what, got, c.want)
		}
	}
	bad, errnos := wrongs()
	for i, wrong := range bad {
		for k, c := range []api.Clause{of(yes(wrong, a)), of(not(a, wrong)), of(yes(a, a), not(wrong, a), yes(a, a)), of(yes(a, a), yes(v(0), wrong))} {
			if got := Right(c); got != errnos[i] {
				t.Errorf("wrong term %d, clause %d: %d, not %d", i, k, got, errnos[i])
			}
		}
	}
}

// P601: all sides count, of clauses that are not right too.
func TestSizeVars(t *testing.T) {
	a, last := f("a"), api.MaxVar-1
	cases := []struct {
		what string
		in   api.Clause
		size int
		vars []int
	}{
		{"none", nil, 0, nil}, {"empty", of(), 0, nil}, {"constants", of(yes(a, a)), 2, nil}, {"atom", of(Atom(f("@p", v(3)))), 3, []int{3}},
		{"of both sides", of(yes(v(5), v(2))), 2, []int{2, 5}}, {"of all literals", of(yes(f("f", v(7), v(7)), v(1)), not(a, f("g", v(4), f("f", v(1)), v(0)))), 10, []int{0, 1, 4, 7}},
		{"the same at each side", of(yes(v(9), v(9)), not(v(9), a)), 4, []int{9}}, {"far", of(yes(v(last), v(0))), 2, []int{0, last}},
		{"too many", many(100, yes(v(8), f("f", v(6)))), 300, []int{6, 8}}, {"too great", of(yes(flat(5000, v(2)), flat(6000, v(1)))), 11000, []int{1, 2}},
		{"too deep", of(yes(a, chain(1<<16, v(3)))), 1<<16 + 1, []int{3}}, {"no numbers", of(yes(v(math.MaxInt), v(-4)), yes(v(math.MinInt), v(0))), 4, []int{math.MinInt, -4, 0, math.MaxInt}},
	}
	for _, c := range cases {
		if got := Size(c.in); got != c.size {
			t.Errorf("%s: Size %d, not %d", c.what, got, c.size)
		}
		if got := Vars(c.in); !slices.Equal(got, c.vars) {
			t.Errorf("%s: Vars %v, not %v", c.what, got, c.vars)
		}
	}
}

// P602: the sides the same, or the other way round, and Neg.
func TestSame(t *testing.T) {
	a, b, x, y := f("a"), f("b"), v(0), v(1)
	cases := []struct {
		a, b api.Lit
		want bool
	}{
		{yes(a, b), yes(a, b), true}, {yes(a, b), yes(b, a), true}, {not(a, b), not(b, a), true}, {not(x, f("f", y)), not(f("f", y), x), true}, {yes(a, a), yes(a, a), true}, {api.Lit{}, api.Lit{}, true},
		{yes(a, b), not(a, b), false}, {not(a, b), yes(b, a), false}, {yes(a, a), not(a, a), false}, {yes(a, b), yes(a, a), false}, {yes(a, a), yes(a, b), false}, {yes(a, b), yes(b, b), false}, {yes(b, b), yes(a, b), false},
		{yes(a, b), yes(a, x), false}, {yes(a, b), yes(x, b), false}, {yes(x, y), yes(y, y), false}, {yes(x, y), yes(x, v(2)), false}, {yes(a, b), yes(b, f("a", x)), false}, {yes(a, b), yes(x, a), false}, {yes(a, b), yes(b, x), false},
		{yes(v(-1), a), yes(a, v(-1)), true}, {yes(api.Term{Var: 1, Fn: "a"}, b), yes(a, b), false}, {yes(api.Term{Fn: "a", Args: []api.Term{}}, b), yes(b, a), true},
	}
	for _, c := range cases {
		if got := Same(c.a, c.b); got != c.want {
			t.Errorf("Same(%s, %s): %v", say(of(c.a)), say(of(c.b)), got)
		}
	}
}

// P602: literal by literal, at its place, its sides as they stand.
func TestEqual(t *testing.T) {
	a, b, x := f("a"), f("b"), v(0)
	list := []api.Clause{
		nil, of(yes(a, b)), of(yes(b, a)), of(not(a, b)), of(yes(a, x)), of(yes(x, b)), of(yes(a, v(1))), of(yes(f("a", a), b)), of(yes(a, b), yes(a, b)), of(yes(a, b), yes(b, a)), of(yes(b, a), yes(a, b)),
		of(yes(a, b), not(a, b)), of(not(a, b), yes(a, b)), of(yes(a, b), yes(a, b), yes(a, b)), of(yes(a, x), yes(x, b)), of(yes(x, b), yes(a, x)), of(yes(v(-1), b)), of(yes(api.Term{Var: 1, Fn: "a"}, b)),
		make(api.Clause, 61), make(api.Clause, 62), of(yes(chain(200, a), b)), of(yes(chain(201, a), b)),
	}
	for i, c := range list {
		for k, d := range list {
			if got := Equal(c, clone(d)); got != (i == k) {
				t.Errorf("Equal of clauses %d, %d: %v", i, k, got)
			}
		}
	}
	if !Equal(nil, of()) || !Equal(of(), nil) || !Equal(of(yes(api.Term{Fn: "a", Args: []api.Term{}}, b)), of(yes(a, b))) {
		t.Error("no list is not as an empty one")
	}
}

// clone: the clause in other memory.
func clone(c api.Clause) api.Clause {
	return plainEach(c, func(t api.Term) api.Term { return plainApply(nil, t) })
}

// P602: in this order, each behind all those ahead of it.
func TestCmp(t *testing.T) {
	x, y, a, b, fa := v(0), v(1), f("a"), f("b"), f("f", f("a"))
	list := []api.Lit{
		yes(x, x), yes(x, y), yes(x, fa), yes(y, x), yes(y, a), yes(a, x), yes(a, a), yes(a, b), yes(a, fa), yes(b, a), yes(b, b), yes(fa, x), yes(fa, fa),
		not(x, x), not(x, b), not(y, x), not(a, b), not(b, a), not(fa, fa),
	}
	for i, l := range list {
		for k, m := range list {
			want := 0
			if i < k {
				want = -1
			} else if i > k {
				want = 1
			}
			if got := Cmp(l, m); got != want {
				t.Errorf("Cmp(%s, %s): %d, not %d", say(of(l)), say(of(m)), got, want)
			}
		}
	}
}

// P602: of any literals: Same, Equal and Cmp as the words say, and Cmp an order.
func TestCompareAny(t *testing.T) {
	r := rand.New(rand.NewSource(6))
	few := []api.Term{v(0), v(1), f("a"), f("f", v(0)), f("f", f("a"))}
	anyLit := func() api.Lit {
		return api.Lit{Neg: r.Intn(2) == 0, L: few[r.Intn(len(few))], R: few[r.Intn(len(few))]}
	}
	same, alike := 0, 0
	for range 50000 {
		a, b, c := anyLit(), anyLit(), anyLit()
		if want := a.Neg == b.Neg && heart(a) == heart(b); Same(a, b) != want || Same(b, a) != want {
			t.Fatalf("Same(%s, %s): %v", say(of(a)), say(of(b)), !want)
		} else if want {
			same++
		}
		equal := say(of(a)) == say(of(b))
		if Equal(of(c, a), of(c, b)) != equal || Equal(of(a, c), of(b, c)) != equal || (Cmp(a, b) == 0) != equal || Cmp(a, b) != -Cmp(b, a) {
			t.Fatalf("Equal or Cmp of %s, %s", say(of(a)), say(of(b)))
		} else if equal {
			alike++
		}
		if Cmp(a, b) <= 0 && Cmp(b, c) <= 0 && Cmp(a, c) > 0 {
			t.Fatalf("Cmp of %s, %s, %s", say(of(a)), say(of(b)), say(of(c)))
		}
		want := term.Cmp(a.R, b.R)
		if !term.Same(a.L, b.L) {
			want = term.Cmp(a.L, b.L)
		}
		if a.Neg == b.Neg && Cmp(a, b) != want || a.Neg != b.Neg && (Cmp(a, b) == 1) != a.Neg {
			t.Fatalf("Cmp(%s, %s): %d", say(of(a)), say(of(b)), Cmp(a, b))
		}
	}
	if same < 100 || alike < 100 || same == alike {
		t.Errorf("only %d were the same, %d alike", same, alike)
	}
}

// P603: at all sides, all at once, with binds that the clause has no use for.
func TestApply(t *testing.T) {
	s := binds(bind(0, f("f", v(1))), bind(1, v(0)), bind(4, f("a")), bind(api.MaxVar-1, f("g", v(api.MaxVar-1), v(2))))
	cases := []struct {
		s        []api.Bind
		in, want api.Clause
	}{
		{s, nil, nil}, {s, of(), nil}, {nil, of(yes(v(3), f("a"))), of(yes(v(3), f("a")))},
		{s, of(yes(v(0), v(1))), of(yes(f("f", v(1)), v(0)))}, {s, of(not(v(4), v(3)), yes(f("g", v(1), v(0)), v(4))), of(not(f("a"), v(3)), yes(f("g", v(0), f("f", v(1))), f("a")))},
		{s, of(yes(f("b"), v(api.MaxVar-1))), of(yes(f("b"), f("g", v(api.MaxVar-1), v(2))))}, {s, of(yes(v(4), f("a")), yes(v(4), f("a"))), of(yes(f("a"), f("a")), yes(f("a"), f("a")))},
		{binds(bind(0, v(1)), bind(1, v(0))), of(yes(v(0), v(1)), not(v(1), v(0))), of(yes(v(1), v(0)), not(v(0), v(1)))},
	}
	for _, c := range cases {
		if got, errno := Apply(c.s, c.in); errno != api.OK || say(got) != say(c.want) {
			t.Errorf("Apply(.., %s): %s, %d, not %s", say(c.in), say(got), errno, say(c.want))
		}
	}
}

// P603: which error, from both sides of each limit, and the first one where several apply.
func TestApplyErrors(t *testing.T) {
	a, deep := f("a"), chain(31, v(1))
	up, grow := binds(bind(1, f("f", v(9)))), binds(bind(0, flat(999, a)), bind(1, chain(30, v(1))))
	cases := []struct {
		what string
		s    []api.Bind
		in   api.Clause
		want api.Errno
	}{
		{"as great as may be", grow, of(yes(v(0), v(0)), yes(v(0), v(0)), not(v(2), v(3)), not(a, a)), api.OK}, {"one greater", grow, of(yes(v(0), v(0)), yes(v(0), v(0)), not(v(2), v(3)), not(a, f("f", a))), api.ErrBig},
		{"one greater, at the first", grow, of(not(a, f("f", a)), yes(v(0), v(0)), yes(v(0), v(0)), not(v(2), v(3))), api.ErrBig}, {"as deep as may be", grow, of(yes(a, deep), yes(deep, a)), api.OK},
		{"left too deep", grow, of(yes(f("f", deep), a)), api.ErrDeep}, {"right too deep", grow, of(not(a, a), not(a, f("f", deep))), api.ErrDeep},
		{"too great, then too deep", grow, of(yes(f("g", many(5, v(0))...), f("f", deep))), api.ErrBig}, {"too deep, then too great", grow, of(yes(f("f", deep), f("g", many(5, v(0))...))), api.ErrDeep},
		{"too great in all, last too deep", grow, of(yes(v(0), v(0)), yes(v(0), v(0)), not(v(0), f("f", deep))), api.ErrDeep},
		{"greatest, nothing bound in it", up, of(yes(flat(api.MaxNodes-1, v(0)), v(2))), api.OK}, {"greatest, and one more", up, of(yes(flat(api.MaxNodes-1, v(0)), v(1))), api.ErrBig},
		{"many literals", binds(bind(1, flat(66, a))), many(api.MaxLits, yes(v(1), a)), api.ErrBig}, {"many literals that fit", binds(bind(1, flat(65, a))), many(api.MaxLits, yes(v(1), a)), api.OK},
	}
	for _, c := range cases {
		got, errno := Apply(c.s, c.in)
		if errno != c.want {
			t.Errorf("%s: %d, not %d", c.what, errno, c.want)
		}
		var want api.Clause
		if errno == api.OK {
			want = plainEach(c.in, func(t api.Term) api.Term { return plainApply(c.s, t) })
		}
		if say(got) != say(want) {
			t.Errorf("%s: another clause", c.what)
		}
	}
}

// P603: what is no substitution, and clauses that are not right, whatever would come.
func TestApplyWrong(t *testing.T) {
	a, far := f("a"), of(yes(v(0), chain(api.MaxDepth, v(1))))
	up := binds(bind(1, f("f", a)))
	wrong := [][]api.Bind{
		binds(bind(-1, a)), binds(bind(api.MaxVar, a)), binds(bind(0, v(0))), binds(bind(0, a), bind(0, a)), binds(bind(1, a), bind(0, a)), binds(bind(7, a), bind(9, v(9))), binds(bind(1, f("f", a)), bind(5, v(-1))),
	}
	for number := range api.MaxNodes + 1 {
		if number == 0 {
			wrong = append(wrong, nil)
		}
		wrong[len(wrong)-1] = append(wrong[len(wrong)-1], bind(number, a))
	}
	bad, _ := wrongs()
	for _, t := range bad {
		wrong = append(wrong, binds(bind(5, t)), binds(bind(1, f("f", a)), bind(5, t)))
	}
	for i, s := range wrong {
		for k, c := range []api.Clause{nil, of(yes(a, a)), far, of(yes(v(-1), a))} {
			if got, errno := Apply(s, c); errno != api.ErrArg || got != nil {
				t.Errorf("no substitution %d, clause %d: %d literals, %d", i, k, len(got), errno)
			}
		}
	}
	for i, c := range wrongClauses() {
		for k, s := range [][]api.Bind{nil, up, binds(bind(0, f("f", v(0))))} {
			if got, errno := Apply(s, slices.Concat(far, c)); errno != api.ErrArg || got != nil {
				t.Errorf("wrong clause %d, substitution %d: %d literals, %d", i, k, len(got), errno)
			}
		}
	}
}

// P603: many great binds, many literals: each bind is looked through a few times, not for each literal anew.
func TestApplyGreat(t *testing.T) {
	var s []api.Bind
	great := flat(api.MaxNodes, v(1))
	for number := range api.MaxNodes {
		s = append(s, bind(number, great))
	}
	c := many(api.MaxLits, yes(v(5000), f("a")))
	if got, errno := Apply(s, c); errno != api.OK || !Equal(got, c) {
		t.Errorf("nothing bound: %d", errno)
	}
	c[59] = not(v(3999), v(4001))
	if got, errno := Apply(s, c); errno != api.ErrBig || got != nil {
		t.Errorf("the last bound: %d", errno)
	}
}

// P603: numbers at each edge, up and down, in all literals.
func TestShift(t *testing.T) {
	a, last := f("a"), api.MaxVar-1
	two := of(yes(f("f", v(3)), a), not(v(1), f("g", v(7), v(3))))
	cases := []struct {
		in   api.Clause
		by   int
		want api.Clause
	}{
		{nil, 5, nil}, {of(), math.MinInt, nil}, {of(yes(a, a)), math.MaxInt, of(yes(a, a))}, {two, 0, two}, {two, 2, of(yes(f("f", v(5)), a), not(v(3), f("g", v(9), v(5))))},
		{two, -1, of(yes(f("f", v(2)), a), not(v(0), f("g", v(6), v(2))))}, {two, last - 7, of(yes(f("f", v(last-4)), a), not(v(last-6), f("g", v(last), v(last-4))))},
		{of(yes(v(last), a)), -last, of(yes(v(0), a))}, {many(api.MaxLits, yes(v(0), a)), last, many(api.MaxLits, yes(v(last), a))},
	}
	for _, c := range cases {
		if got, errno := Shift(c.in, c.by); errno != api.OK || say(got) != say(c.want) {
			t.Errorf("Shift(%.200s, %d): %.200s, %d", say(c.in), c.by, say(got), errno)
		}
	}
	for _, by := range []int{-2, last - 6, api.MaxVar, -api.MaxVar, math.MaxInt, math.MinInt} {
		for _, c := range []api.Clause{two, of(two[1], two[0]), of(yes(a, a), not(f("g", v(7), v(3)), v(1)))} {
			if got, errno := Shift(c, by); errno != api.ErrArg || got != nil {
				t.Errorf("Shift(%s, %d): %s, %d", say(c), by, say(got), errno)
			}
		}
	}
	for i, c := range wrongClauses() {
		for _, by := range []int{0, 1, -1, math.MaxInt, math.MinInt} {
			if got, errno := Shift(c, by); errno != api.ErrArg || got != nil {
				t.Errorf("wrong clause %d, by %d: %d literals, %d", i, by, len(got), errno)
			}
		}
	}
}

// P603: the chapter's example, in the order met, from side to side and literal to literal.
func TestNormal(t *testing.T) {
	a := f("a")
	odd := api.Term{Var: 7, Fn: "g", Args: []api.Term{v(3)}}
	cases := []struct {
		what     string
		in, want api.Clause
	}{
		{"none", nil, nil}, {"empty", of(), nil}, {"no variable", of(yes(a, f("f", a))), of(yes(a, f("f", a)))},
		{"example", of(yes(v(5), a), not(v(2), v(5))), of(yes(v(0), a), not(v(1), v(0)))}, {"left ahead of right", of(yes(v(1), v(0))), of(yes(v(0), v(1)))},
		{"literal by literal", of(not(a, v(9)), yes(v(4), a), yes(v(0), v(9))), of(not(a, v(0)), yes(v(1), a), yes(v(2), v(0)))},
		{"within, from the left", of(yes(f("f", f("g", v(8), f("h", v(6))), v(7)), f("g", v(5), v(6)))), of(yes(f("f", f("g", v(0), f("h", v(1))), v(2)), f("g", v(3), v(1))))},
		{"normal already", of(yes(v(0), f("f", v(1), v(0))), not(v(2), v(1))), of(yes(v(0), f("f", v(1), v(0))), not(v(2), v(1)))}, {"last numbers", of(yes(v(api.MaxVar-1), v(api.MaxVar-2))), of(yes(v(0), v(1)))},
		{"numbers that can't be", of(yes(v(-1), v(9)), not(v(api.MaxVar), v(math.MaxInt)), yes(v(math.MinInt), v(9)), yes(v(8), a)), of(yes(v(-1), v(0)), not(v(api.MaxVar), v(math.MaxInt)), yes(v(math.MinInt), v(0)), yes(v(1), a))},
		{"parts of no right shape", of(yes(f("f", odd, v(2)), api.Term{Var: 3, Args: []api.Term{v(5), v(2)}})), of(yes(f("f", api.Term{Var: 7, Fn: "g", Args: []api.Term{v(0)}}, v(1)), api.Term{Var: 0, Args: []api.Term{v(2), v(1)}}))},
		{"more than MaxLits", many(70, yes(v(5), v(4))), many(70, yes(v(0), v(1)))}, {"greater than MaxNodes", of(yes(flat(5000, v(3)), v(1))), of(yes(flat(5000, v(0)), v(1)))},
	}
	for _, c := range cases {
		if got := Normal(c.in); say(got) != say(c.want) {
			t.Errorf("%s: %.300s", c.what, say(got))
		}
	}
	if got := Normal(of(yes(chain(1<<16, v(3)), v(2)))); !Equal(got, of(yes(chain(1<<16, v(0)), v(1)))) {
		t.Error("far down: another clause")
	}
}

// P603, P605: more variables than a substitution binds: each has its own name still.
func TestNormalMany(t *testing.T) {
	var c, want api.Clause
	for i := range 2 * api.MaxNodes {
		c, want = append(c, yes(v(9*api.MaxNodes-i), f("a"))), append(want, yes(v(i), f("a")))
	}
	if got := Normal(c); !Equal(got, want) || !Equal(Normal(got), want) {
		t.Error("another clause")
	}
}

// P604: what goes and what stays, at its place.
func TestClean(t *testing.T) {
	a, b, x, y := f("a"), f("b"), v(0), v(1)
	cases := []struct{ in, want api.Clause }{
		{nil, nil}, {of(), nil}, {of(yes(a, b)), of(yes(a, b))}, {of(yes(a, b), yes(a, b)), of(yes(a, b))}, {of(yes(a, b), yes(b, a)), of(yes(a, b))}, {of(yes(b, a), yes(a, b), yes(b, a)), of(yes(b, a))},
		{of(not(a, b), not(b, a)), of(not(a, b))}, {of(not(a, a)), nil}, {of(yes(a, a)), of(yes(a, a))}, {of(yes(a, a), yes(a, a)), of(yes(a, a))}, {of(not(x, x), not(x, x)), nil}, {of(not(x, y)), of(not(x, y))},
		{of(yes(a, b), not(a, b), yes(b, a), not(b, a)), of(yes(a, b), not(a, b))}, {of(yes(a, a), not(a, a)), of(yes(a, a))}, {of(not(a, a), yes(a, a)), of(yes(a, a))},
		{of(yes(x, a), not(y, y), yes(y, b), yes(a, x), not(b, y), yes(x, b)), of(yes(x, a), yes(y, b), not(b, y), yes(x, b))}, {of(yes(x, a), yes(y, a)), of(yes(x, a), yes(y, a))}, {of(yes(a, b), yes(a, a), yes(b, b)), of(yes(a, b), yes(a, a), yes(b, b))},
		{of(not(f("f", x, y), f("f", x, y)), not(f("f", x, y), f("f", y, x))), of(not(f("f", x, y), f("f", y, x)))}, {of(not(v(-1), v(-1)), yes(v(-1), a), yes(a, v(-1))), of(yes(v(-1), a))},
		{many(1000, yes(a, x)), of(yes(a, x))}, {make(api.Clause, 61), make(api.Clause, 1)}, {many(1000, not(a, a)), nil}, {of(not(chain(300, a), chain(300, a)), not(chain(300, a), chain(300, x))), of(not(chain(300, a), chain(300, x)))},
	}
	for _, c := range cases {
		if got := Clean(c.in); say(got) != say(c.want) {
			t.Errorf("Clean(%.300s): %s, not %s", say(c.in), say(got), say(c.want))
		}
	}
}

// P604: a literal that always holds, or two of which one always does.
func TestTautology(t *testing.T) {
	a, b, x, y := f("a"), f("b"), v(0), v(1)
	cases := []struct {
		in   api.Clause
		want bool
	}{
		{nil, false}, {of(), false}, {of(yes(a, a)), true}, {of(yes(x, x)), true}, {of(Atom(True())), true}, {of(not(a, a)), false}, {of(not(a, a), not(a, a)), false}, {of(yes(a, b)), false}, {of(yes(x, y)), false},
		{of(yes(a, b), not(a, b)), true}, {of(not(a, b), yes(a, b)), true}, {of(yes(a, b), not(b, a)), true}, {of(not(b, a), yes(a, b)), true}, {of(yes(a, b), yes(b, a)), false}, {of(not(a, b), not(a, b)), false},
		{of(yes(a, b), not(a, x)), false}, {of(yes(a, b), not(b, b)), false}, {of(yes(a, b), not(a, a)), false}, {of(not(a, b), yes(x, y), not(b, y), yes(y, b), yes(a, x)), true}, {of(not(a, b), yes(x, y), not(b, y), yes(y, a), yes(a, x)), false},
		{of(not(x, y), not(a, x), yes(f("f", x, a), f("f", x, a))), true}, {of(not(x, y), not(a, x), yes(f("f", x, a), f("f", a, x))), false}, {make(api.Clause, 61), true}, {many(1000, not(a, a)), false}, {append(many(1000, not(a, b)), yes(b, a)), true},
		{of(yes(v(-1), v(-1))), true}, {of(yes(v(-1), a), not(a, v(-1))), true}, {of(yes(api.Term{Var: 1, Fn: "a"}, a)), false}, {of(Atom(f("@p", x)), api.Lit{Neg: true, L: f("@p", x), R: True()}), true}, {of(Atom(f("@p", x)), api.Lit{Neg: true, L: f("@p", y), R: True()}), false},
	}
	for _, c := range cases {
		if got := Tautology(c.in); got != c.want {
			t.Errorf("Tautology(%.300s): %v", say(c.in), got)
		}
	}
}

// plainClean: by the texts of what literals say.
func plainClean(c api.Clause) api.Clause {
	var d api.Clause
	met := map[string]bool{}
	for _, l := range c {
		key := fmt.Sprint(l.Neg, heart(l))
		if l.Neg && text(l.L) == text(l.R) || met[key] {
			continue
		}
		met[key] = true
		d = append(d, l)
	}
	return d
}

// plainTautology: by the texts of what literals say.
func plainTautology(c api.Clause) bool {
	signs := map[string]int{}
	for _, l := range c {
		if l.Neg {
			signs[heart(l)] |= 1
		} else {
			signs[heart(l)] |= 2
		}
		if !l.Neg && text(l.L) == text(l.R) || signs[heart(l)] == 3 {
			return true
		}
	}
	return false
}

// P603, P604, P605: of any clauses: each call as the plain words, and twice as once.
func TestAny(t *testing.T) {
	r := rand.New(rand.NewSource(60))
	shorter, valid := 0, 0
	for range 20000 {
		c, s := anyClause(r), anySubst(r)
		if got, want := Normal(c), plainNormal(c); say(got) != say(want) || say(Normal(got)) != say(want) {
			t.Fatalf("Normal(%s): %s", say(c), say(got))
		}
		clean := Clean(c)
		if say(clean) != say(plainClean(c)) || say(Clean(clean)) != say(clean) {
			t.Fatalf("Clean(%s): %s", say(c), say(clean))
		}
		if got, errno := Apply(s, c); errno != api.OK || say(got) != say(plainEach(c, func(t api.Term) api.Term { return plainApply(s, t) })) {
			t.Fatalf("Apply(.., %s): %s, %d", say(c), say(got), errno)
		}
		if up, errno := Shift(c, 7); errno != api.OK || !Equal(Normal(up), Normal(c)) {
			t.Fatalf("Shift(%s): %s, %d", say(c), say(up), errno)
		}
		if Tautology(c) != plainTautology(c) || Tautology(clean) != Tautology(c) {
			t.Fatalf("Tautology(%s): %v", say(c), Tautology(c))
		}
		if len(clean) < len(c) {
			shorter++
		}
		if Tautology(c) {
			valid++
		}
	}
	if shorter < 1000 || valid < 1000 || valid > 15000 {
		t.Errorf("only %d became shorter, %d were tautologies", shorter, valid)
	}
}

// world: an interpretation, which tells the value of each function for its arguments' values, by chance, but always the same. Values from 0 on are things; false is -2, true is -1.
type world struct {
	r      *rand.Rand
	things int
	values map[string]int
}

func (w *world) value(t api.Term, vars map[int]int) int {
	if t.Fn == "" {
		return vars[t.Var]
	}
	key := t.Fn
	for _, arg := range t.Args {
		key += fmt.Sprint(" ", w.value(arg, vars))
	}
	if _, told := w.values[key]; !told {
		w.values[key] = w.r.Intn(w.things)
		if t.Fn[0] == '@' {
			w.values[key] = w.r.Intn(2) - 2
		} else if t.Fn == "$true" && len(t.Args) == 0 {
			w.values[key] = -1
		}
	}
	return w.values[key]
}

// holds: of those things as the variables, one of the clause's literals does.
func (w *world) holds(c api.Clause, vars map[int]int) bool {
	return slices.ContainsFunc(c, func(l api.Lit) bool { return l.Neg != (w.value(l.L, vars) == w.value(l.R, vars)) })
}

// each: of all things that five variables may be.
func (w *world) each(test func(vars map[int]int)) {
	vars := map[int]int{}
	var set func(number int)
	set = func(number int) {
		if number == 5 {
			test(vars)
			return
		}
		for thing := range w.things {
			vars[number] = thing
			set(number + 1)
		}
	}
	set(0)
}

// P605: what is cleaned holds just where the clause does; a tautology holds everywhere.
func TestMeans(t *testing.T) {
	r := rand.New(rand.NewSource(605))
	fails := 0
	for range 4000 {
		c, w := anyClause(r), &world{r, 1 + r.Intn(3), map[string]int{}}
		clean, valid := Clean(c), Tautology(c)
		w.each(func(vars map[int]int) {
			holds := w.holds(c, vars)
			if w.holds(clean, vars) != holds {
				t.Fatalf("Clean(%s): %s, by %v", say(c), say(clean), vars)
			}
			if valid && !holds {
				t.Fatalf("Tautology(%s), by %v", say(c), vars)
			}
			if !holds {
				fails++
			}
		})
	}
	if fails < 1000 {
		t.Errorf("only %d times a clause did not hold", fails)
	}
}

// roomy: the term with spare room behind each list, which is filled.
func roomy(t api.Term) api.Term {
	room := make([]api.Term, 0, len(t.Args)+2)
	for _, arg := range t.Args {
		room = append(room, roomy(arg))
	}
	copy(room[len(room):cap(room)], many(2, f("spare")))
	return api.Term{Var: t.Var, Fn: t.Fn, Args: room}
}

// roomyClause: the same of a clause.
func roomyClause(c api.Clause) api.Clause {
	room := make(api.Clause, 0, len(c)+1)
	room = append(room, plainEach(c, roomy)...)
	room[:len(c)+1][len(c)] = yes(f("spare"), f("spare"))
	return room
}

// untouched: is the term still as roomy made it of want?
func untouched(t, want api.Term) bool {
	all := t.Args[:cap(t.Args)]
	if t.Var != want.Var || t.Fn != want.Fn || len(all) != len(want.Args)+2 || text(all[len(all)-2]) != text(f("spare")) || text(all[len(all)-1]) != text(f("spare")) {
		return false
	}
	for i, arg := range want.Args {
		if !untouched(all[i], arg) {
			return false
		}
	}
	return true
}

// untouchedClause: is the clause still as roomyClause made it of want?
func untouchedClause(c, want api.Clause) bool {
	all := c[:cap(c)]
	if len(all) != len(want)+1 || say(all[len(want):]) != say(of(yes(f("spare"), f("spare")))) {
		return false
	}
	for i, l := range want {
		if all[i].Neg != l.Neg || !untouched(all[i].L, l.L) || !untouched(all[i].R, l.R) {
			return false
		}
	}
	return true
}

// spoil: writes over all lists of the term, their spare room too, and tells whether one of them was written over before.
func spoil(t api.Term) (twice bool) {
	all := t.Args[:cap(t.Args)]
	for i := range all {
		twice = twice || all[i].Fn == "spoilt" || spoil(all[i])
		all[i] = f("spoilt")
	}
	return twice
}

// spoilClause: the same of a clause.
func spoilClause(c api.Clause) (twice bool) {
	all := c[:cap(c)]
	for i, l := range all {
		twice = twice || l.L.Fn == "spoilt"
		twice = spoil(l.L) || twice
		twice = spoil(l.R) || twice
		all[i] = yes(f("spoilt"), f("spoilt"))
	}
	return twice
}

// Rule 4: what is handed in is not changed, and what is handed out shares no memory with it, nor with another part of the answer.
func TestApart(t *testing.T) {
	plain := of(yes(f("f", v(3), f("g", v(3), f("a"))), f("g", v(1), f("a"))), not(f("g", v(1), f("a")), f("f", v(3), f("g", v(3), f("a")))), yes(v(1), v(3)), yes(v(3), v(1)), not(f("h", v(0)), f("h", v(0))))
	plainT := f("g", v(2), f("h", v(3)))
	calls := map[string]func(s []api.Bind, c api.Clause) api.Clause{
		"Apply":  func(s []api.Bind, c api.Clause) api.Clause { d, _ := Apply(s, c); return d },
		"Shift":  func(_ []api.Bind, c api.Clause) api.Clause { d, _ := Shift(c, 4); return d },
		"Normal": func(_ []api.Bind, c api.Clause) api.Clause { return Normal(c) },
		"Clean":  func(_ []api.Bind, c api.Clause) api.Clause { return Clean(c) },
		"Atom":   func(_ []api.Bind, c api.Clause) api.Clause { return of(Atom(c[0].L)) },
		"others": func(_ []api.Bind, c api.Clause) api.Clause {
			Right(c)
			Size(c)
			Same(c[0], c[1])
			Equal(c, c)
			Cmp(c[0], c[1])
			Tautology(c)
			IsAtom(c[0])
			return nil
		},
	}
	for name, call := range calls {
		c, s := roomyClause(plain), binds(bind(3, roomy(plainT)))
		got := call(s, c)
		told := say(got)
		if !untouchedClause(c, plain) || !untouched(s[0].T, plainT) {
			t.Errorf("%s: what was handed in has changed", name)
		}
		spoilClause(c)
		spoil(s[0].T)
		if say(got) != told {
			t.Errorf("%s: what was handed out is shared with what was handed in", name)
		}
		if spoilClause(got) {
			t.Errorf("%s: two lists that were handed out are shared", name)
		}
	}
	c := of(yes(v(4), v(2)))
	first := Vars(c)
	first[0], first[1] = 100, 200
	if got := Vars(c); !slices.Equal(got, []int{2, 4}) {
		t.Errorf("Vars: %v", got)
	}
	top := True()
	top.Fn = "spoilt"
	if text(True()) != text(f("$true")) {
		t.Error("True has changed")
	}
}
