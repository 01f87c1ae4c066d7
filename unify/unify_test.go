package unify

import (
	"fmt"
	"math"
	"math/rand"
	"slices"
	"strings"
	"testing"

	"assize/api"
	"assize/subst"
	"assize/term"
)

func v(number int) api.Term { return api.Term{Var: number} }

func f(name string, args ...api.Term) api.Term { return api.Term{Fn: name, Args: args} }

func bind(number int, t api.Term) api.Bind { return api.Bind{Var: number, T: t} }

func binds(l ...api.Bind) []api.Bind { return l }

// chain: f(f(..(last))), so many parts within one another.
func chain(depth int, last api.Term) api.Term {
	t := last
	for range depth - 1 {
		t = f("f", t)
	}
	return t
}

// flat: of so many parts, no deeper than it must be, with leaf at each end.
func flat(size int, leaf api.Term) api.Term {
	if size == 1 {
		return leaf
	}
	count := min(api.MaxArgs, size-1)
	t := f("f")
	for i := range count {
		share := (size - 1) / count
		if i < (size-1)%count {
			share++
		}
		t.Args = append(t.Args, flat(share, leaf))
	}
	return t
}

// bundle: one term of all of them: two bundles of as many become one just if their members do, pair by pair.
func bundle(l []api.Term) api.Term {
	for len(l) > 1 {
		var up []api.Term
		for some := range slices.Chunk(l, api.MaxArgs) {
			up = append(up, f("l", some...))
		}
		l = up
	}
	return l[0]
}

// many: so many copies of t.
func many(count int, t api.Term) []api.Term { return slices.Repeat([]api.Term{t}, count) }

// row: so many variables, from a first number on.
func row(first, count int) []api.Term {
	var l []api.Term
	for i := range count {
		l = append(l, v(first+i))
	}
	return l
}

// wrongs: terms that are not right, each in another way.
func wrongs() []api.Term {
	bad := []api.Term{
		v(-1), v(api.MaxVar), v(math.MinInt), v(math.MaxInt),
		{Args: many(1, f("a"))}, {Var: 3, Args: many(2, v(1))}, {Var: 1, Fn: "a"},
		f(strings.Repeat("n", api.MaxName+1)), f("f", many(api.MaxArgs+1, v(0))...),
	}
	for _, t := range slices.Clone(bad) {
		bad = append(bad, f("g", f("a"), f("h", t)))
	}
	return append(bad, chain(api.MaxDepth+1, f("a")), flat(api.MaxNodes+1, f("a")), chain(1<<16, v(1)))
}

// anyTerm: a right term of few names and variables, so that what fits comes often.
func anyTerm(r *rand.Rand, depth, vars int) api.Term {
	if depth == 1 || r.Intn(3) == 0 {
		if r.Intn(4) == 0 {
			return f([]string{"a", "b"}[r.Intn(2)])
		}
		return v(r.Intn(vars))
	}
	if r.Intn(3) == 0 {
		return f("g", anyTerm(r, depth-1, vars))
	}
	return f("f", anyTerm(r, depth-1, vars), anyTerm(r, depth-1, vars))
}

// text: a term as a text that no other one has.
func text(t api.Term) string {
	var b strings.Builder
	fmt.Fprintf(&b, "%d %q(", t.Var, t.Fn)
	for _, arg := range t.Args {
		b.WriteString(text(arg) + ",")
	}
	return b.String() + ")"
}

// texts: binds as a text that no other ones have.
func texts(s []api.Bind) string {
	var b strings.Builder
	for _, x := range s {
		fmt.Fprintf(&b, "%d: %s; ", x.Var, text(x.T))
	}
	return b.String()
}

// plainApply: each bound variable's T in its place, all at once, with no eye on limits.
func plainApply(s []api.Bind, t api.Term) api.Term {
	for _, b := range s {
		if t.Fn == "" && t.Var == b.Var {
			return b.T
		}
	}
	var args []api.Term
	for _, arg := range t.Args {
		args = append(args, plainApply(s, arg))
	}
	return api.Term{Var: t.Var, Fn: t.Fn, Args: args}
}

// plainUnify: goes through both from the left, and puts what it finds at once into all that is left and all that was found.
func plainUnify(a, b api.Term) (found []api.Bind, ok bool) {
	type equation struct{ l, r api.Term }
	left := []equation{{a, b}}
	for len(left) > 0 {
		e := left[0]
		left = left[1:]
		if e.l.Fn != "" && e.r.Fn != "" {
			if e.l.Fn != e.r.Fn || len(e.l.Args) != len(e.r.Args) {
				return nil, false
			}
			for i := range e.l.Args {
				left = append(left, equation{e.l.Args[i], e.r.Args[i]})
			}
			continue
		}
		if e.l.Fn != "" || e.r.Fn == "" && e.l.Var < e.r.Var {
			e.l, e.r = e.r, e.l
		}
		if text(e.l) == text(e.r) {
			continue
		}
		if slices.Contains(term.Vars(e.r), e.l.Var) {
			return nil, false
		}
		one := binds(bind(e.l.Var, e.r))
		for i := range left {
			left[i] = equation{plainApply(one, left[i].l), plainApply(one, left[i].r)}
		}
		for i := range found {
			found[i].T = plainApply(one, found[i].T)
		}
		found = append(found, one...)
	}
	slices.SortFunc(found, func(x, y api.Bind) int { return x.Var - y.Var })
	return found, true
}

// plainMatch: each variable of the pattern is bound to what stands at its first place; then both are held against each other.
func plainMatch(pattern, t api.Term) (found []api.Bind, ok bool) {
	var whole []api.Bind
	for _, place := range term.Places(pattern) {
		part, _ := term.At(pattern, place)
		there, errno := term.At(t, place)
		bound := slices.ContainsFunc(whole, func(b api.Bind) bool { return b.Var == part.Var })
		if part.Fn == "" && errno == api.OK && !bound {
			whole = append(whole, bind(part.Var, there))
		}
	}
	if text(plainApply(whole, pattern)) != text(t) {
		return nil, false
	}
	for _, b := range whole {
		if text(b.T) != text(v(b.Var)) {
			found = append(found, b)
		}
	}
	slices.SortFunc(found, func(x, y api.Bind) int { return x.Var - y.Var })
	return found, true
}

// tests of Unify hold both orders against the same answer: there is just one most general unifier.
func unifies(t *testing.T, what string, a, b api.Term, want []api.Bind) {
	t.Helper()
	for range 2 {
		if got, ok, errno := Unify(a, b); !ok || errno != api.OK || texts(got) != texts(want) {
			t.Errorf("%s: %.300s, %v, %d, not %.300s", what, texts(got), ok, errno, texts(want))
		}
		a, b = b, a
	}
}

func refuses(t *testing.T, what string, a, b api.Term, want api.Errno) {
	t.Helper()
	for range 2 {
		if got, ok, errno := Unify(a, b); ok || errno != want || got != nil {
			t.Errorf("%s: %.300s, %v, %d, not %d", what, texts(got), ok, errno, want)
		}
		a, b = b, a
	}
}

// P501: the chapter's examples; constants, functions, variables of one number; through classes.
func TestUnify(t *testing.T) {
	a, b, last := f("a"), f("b"), api.MaxVar-1
	cases := []struct {
		a, b api.Term
		want []api.Bind
	}{
		{f("f", v(0), b), f("f", a, v(1)), binds(bind(0, a), bind(1, b))},
		{v(3), v(1), binds(bind(3, v(1)))},
		{a, a, nil}, {v(5), v(5), nil}, {v(0), v(0), nil}, {f("f", v(1), a), f("f", v(1), a), nil},
		{v(0), a, binds(bind(0, a))}, {v(last), a, binds(bind(last, a))}, {v(last), v(last - 1), binds(bind(last, v(last-1)))}, {v(last), v(0), binds(bind(last, v(0)))},
		{v(0), f("X0"), binds(bind(0, f("X0")))}, {v(2), f("g", v(0), v(9)), binds(bind(2, f("g", v(0), v(9))))},
		{f("f", v(0), v(0)), f("f", v(1), a), binds(bind(0, a), bind(1, a))},
		{f("f", v(1), a), f("f", v(0), v(0)), binds(bind(0, a), bind(1, a))},
		{f("f", v(0), v(0)), f("f", f("g", v(1)), f("g", a)), binds(bind(0, f("g", a)), bind(1, a))},
		{f("f", v(0), v(1)), f("f", f("g", v(1)), f("g", v(2))), binds(bind(0, f("g", f("g", v(2)))), bind(1, f("g", v(2))))},
		{f("f", v(0), v(1), v(2)), f("f", v(1), v(2), v(0)), binds(bind(1, v(0)), bind(2, v(0)))},
		{f("f", v(9), v(4), v(7)), f("f", v(4), v(7), v(5)), binds(bind(5, v(4)), bind(7, v(4)), bind(9, v(4)))},
		{f("f", v(9), v(4), v(7), v(1)), f("f", v(4), v(7), v(5), v(5)), binds(bind(4, v(1)), bind(5, v(1)), bind(7, v(1)), bind(9, v(1)))},
		{f("f", v(1), v(3), v(1)), f("f", v(2), v(4), v(3)), binds(bind(2, v(1)), bind(3, v(1)), bind(4, v(1)))},
		{f("f", v(0), v(1), v(2), v(3)), f("f", v(1), v(2), v(3), f("g", v(8))), binds(bind(0, f("g", v(8))), bind(1, f("g", v(8))), bind(2, f("g", v(8))), bind(3, f("g", v(8))))},
		{f("f", f("g", v(6)), v(6)), f("f", v(0), f("g", v(2))), binds(bind(0, f("g", f("g", v(2)))), bind(6, f("g", v(2))))},
		{f("f", v(0), v(0), v(6)), f("f", f("g", v(6)), f("g", v(2)), v(7)), binds(bind(0, f("g", v(2))), bind(6, v(2)), bind(7, v(2)))},
		{f("f", f("g", v(1), v(2)), f("g", v(2), v(1))), f("f", f("g", v(2), v(1)), f("g", v(1), v(2))), binds(bind(2, v(1)))},
		{f("f", v(0), f("f", v(0))), f("f", v(1), f("f", v(1))), binds(bind(1, v(0)))},
		{chain(api.MaxDepth, v(7)), chain(api.MaxDepth, a), binds(bind(7, a))}, {flat(api.MaxNodes, v(7)), flat(api.MaxNodes, v(8)), binds(bind(8, v(7)))},
		{f("f", row(0, api.MaxArgs)...), f("f", many(api.MaxArgs, v(3))...), sames(1, api.MaxArgs-1, v(0))},
	}
	for _, c := range cases {
		unifies(t, text(c.a)+" and "+text(c.b), c.a, c.b, c.want)
	}
}

// sames: binds of so many variables to one term.
func sames(first, count int, t api.Term) (s []api.Bind) {
	for i := range count {
		s = append(s, bind(first+i, t))
	}
	return s
}

// P501: false: another name, another number of arguments, a variable within itself, at once or by way of others.
func TestUnifyNot(t *testing.T) {
	a, b := f("a"), f("b")
	cases := [][2]api.Term{
		{v(0), f("g", v(0))}, {v(0), f("f", a, v(0))}, {v(4), chain(api.MaxDepth, v(4))},
		{a, b}, {f("f", a), f("f", b)}, {f("f", a), f("g", a)}, {f("f"), f("f", a)}, {f("f", a), f("f", a, a)}, {f("f", v(0)), f("f", v(0), v(1))}, {f("X0"), f("X1")}, {a, f("a", v(0))},
		{f("f", v(0), v(0)), f("f", a, b)}, {f("f", v(0), v(1), v(0)), f("f", v(1), a, b)}, {f("f", v(0), v(0)), f("f", f("g", v(1)), v(1))},
		{f("f", v(0), v(1)), f("f", f("g", v(1)), f("g", v(0)))}, {f("f", v(0), v(1)), f("f", v(1), f("g", v(0)))}, {f("f", v(0), v(1)), f("f", f("g", v(1)), v(0))},
		{f("f", v(0), v(1), v(2), v(3)), f("f", f("g", v(1)), f("g", v(2)), f("g", v(3)), f("g", v(0)))},
		{f("f", v(5), v(5)), f("f", f("g", v(1), v(2)), f("g", v(2), f("g", a, v(1))))},
		{f("f", v(0), f("g", v(1), v(2)), v(2)), f("f", a, f("g", v(2), f("h", v(3))), v(3))},
		{f("f", f("g", v(0), a), a), f("f", f("g", a, v(0)), b)}, {f("f", a, v(0)), f("f", b, v(1))}, {f("f", v(0), a), f("f", v(1), b)},
		{chain(api.MaxDepth, a), chain(api.MaxDepth, b)}, {chain(api.MaxDepth, a), chain(api.MaxDepth-1, a)}, {flat(api.MaxNodes, a), flat(api.MaxNodes-1, a)},
	}
	for _, c := range cases {
		refuses(t, text(c[0])+" and "+text(c[1]), c[0], c[1], api.OK)
	}
}

// P501: the depth and the size of what stands for variables, from both sides of the limits, and not of what both become.
func TestUnifyLimits(t *testing.T) {
	a := f("a")
	at := func(x, y api.Term) (api.Term, api.Term) { return f("h", v(0), v(1)), f("h", x, y) }
	x, y := at(chain(30, v(2)), chain(31, v(0)))
	unifies(t, "as deep as may be", x, y, binds(bind(0, chain(30, v(2))), bind(1, chain(60, v(2)))))
	x, y = at(chain(31, v(2)), chain(31, v(0)))
	refuses(t, "one deeper", x, y, api.ErrBig)
	x, y = at(chain(31, v(1)), chain(31, a))
	refuses(t, "one deeper, by the first variable", x, y, api.ErrBig)
	x, y = at(chain(30, v(2)), f("k", chain(30, v(0)), a))
	unifies(t, "as deep as may be, ahead of what is not deep", x, y, binds(bind(0, chain(30, v(2))), bind(1, f("k", chain(59, v(2)), a))))
	x, y = at(chain(31, v(2)), f("k", chain(30, v(0)), a))
	refuses(t, "one deeper, ahead of what is not deep", x, y, api.ErrBig)
	x, y = at(flat(999, a), f("g", v(0), v(0), v(0), v(0), a, a, v(2)))
	unifies(t, "as great as may be", x, y, binds(bind(0, flat(999, a)), bind(1, f("g", append(many(4, flat(999, a)), a, a, v(2))...))))
	x, y = at(flat(1000, a), f("g", v(0), v(0), v(0), v(0)))
	refuses(t, "one greater", x, y, api.ErrBig)
	unifies(t, "the deepest bind", v(1), chain(60, v(0)), binds(bind(1, chain(60, v(0)))))
	unifies(t, "the greatest bind", v(1), flat(4000, v(0)), binds(bind(1, flat(4000, v(0)))))
	unifies(t, "what both become is too great", f("h", v(0), v(0), v(0)), f("h", v(1), v(1), flat(3000, a)), sames(0, 2, flat(3000, a)))
	unifies(t, "what both become is too deep", f("h", v(0), chain(50, v(0))), f("h", chain(50, a), chain(50, v(1))), sames(0, 2, chain(50, a)))
	unifies(t, "too great, but in no bind", f("h", v(0), v(0), flat(3000, v(0))), f("h", f("g", v(1)), v(2), flat(3000, v(0))), binds(bind(0, f("g", v(1))), bind(2, f("g", v(1)))))
}

// P501: whether there is a unifier counts ahead of what is too great.
func TestUnifyFirst(t *testing.T) {
	a, b := f("a"), f("b")
	great := [][2]api.Term{{v(0), chain(40, v(1))}, {v(1), chain(40, v(2))}, {v(3), flat(200, v(4))}, {v(4), flat(200, a)}}
	for what, not := range map[string][][2]api.Term{
		"two constants":         {{a, b}},
		"one variable of two":   {{v(9), a}, {v(9), b}},
		"within itself":         {{v(9), f("g", v(9))}},
		"within itself by two":  {{v(9), f("g", v(8))}, {v(8), f("g", v(9))}},
		"within the great ones": {{v(2), f("g", v(0))}},
		"below the great ones":  {{v(1), chain(10, v(7))}, {v(7), a}, {v(2), b}, {v(1), chain(40, v(2))}},
	} {
		for _, list := range [][][2]api.Term{append(slices.Clone(great), not...), append(slices.Clone(not), great...)} {
			var x, y []api.Term
			for _, pair := range list {
				x, y = append(x, pair[0]), append(y, pair[1])
			}
			refuses(t, what, bundle(x), bundle(y), api.OK)
		}
	}
	var x, y []api.Term
	for _, pair := range great {
		x, y = append(x, pair[0]), append(y, pair[1])
	}
	refuses(t, "nothing else", bundle(x), bundle(y), api.ErrBig)
}

// doubling: count equations, each of which doubles what stands for the variable ahead: X1 = f(X0, X0), X2 = f(X1, X1), ..
func doubling(first, count int) (l, r []api.Term) {
	for i := range count {
		l, r = append(l, v(first+i+1)), append(r, f("f", v(first+i), v(first+i)))
	}
	return l, r
}

// P501, Rule 1: terms that become far too great are told apart without being built, and those that just may be are.
func TestUnifyDoubling(t *testing.T) {
	l, r := doubling(0, 10)
	want := []api.Bind{}
	whole := v(0)
	for i := range 10 {
		whole = f("f", whole, whole)
		want = append(want, bind(i+1, whole))
	}
	unifies(t, "ten", bundle(l), bundle(r), want)
	for _, count := range []int{11, 59, 60, 64, 100, 1200} {
		l, r = doubling(0, count)
		refuses(t, fmt.Sprint(count), bundle(l), bundle(r), api.ErrBig)
		refuses(t, fmt.Sprint(count, " within itself"), bundle(append(l, v(0))), bundle(append(r, f("g", v(count)))), api.OK)
		refuses(t, fmt.Sprint(count, " and two constants"), bundle(append(l, v(count), v(0))), bundle(append(r, f("a"), f("b"))), api.OK)
	}
	for _, count := range []int{10, 50, 500} {
		l, r = doubling(0, count)
		l2, r2 := doubling(5000, count)
		l, r = append(append(l, l2...), v(count)), append(append(r, r2...), v(5000+count))
		if count > 10 {
			refuses(t, fmt.Sprint("twice ", count), bundle(l), bundle(r), api.ErrBig)
		} else if got, ok, errno := Unify(bundle(l), bundle(r)); !ok || errno != api.OK || len(got) != 2*count+1 || texts(got[count:count+1]) != texts(binds(bind(5000, v(0)))) {
			t.Errorf("twice %d: %d binds, %v, %d", count, len(got), ok, errno)
		}
		refuses(t, fmt.Sprint("twice ", count, ", and other ends"), bundle(append(l, v(0), v(5000))), bundle(append(r, f("a"), f("b"))), api.OK)
	}
}

// P501: a long way from variable to variable, in both directions, ends at the least one.
func TestUnifyLong(t *testing.T) {
	const count = 3000
	l := row(0, count)
	unifies(t, "rising", bundle(l[1:]), bundle(l[:count-1]), sames(1, count-1, v(0)))
	slices.Reverse(l)
	unifies(t, "falling", bundle(l[1:]), bundle(l[:count-1]), sames(1, count-1, v(0)))
	unifies(t, "rising, a function at last", bundle(append(row(1, count), v(count))), bundle(append(row(0, count), f("a"))), sames(0, count+1, f("a")))
	var x, y []api.Term
	for i := range 1500 {
		x, y = append(x, v(i)), append(y, f("g", v(i+1)))
	}
	refuses(t, "too deep by far", bundle(x), bundle(y), api.ErrBig)
	refuses(t, "within itself by far", bundle(append(x, v(1500))), bundle(append(y, v(0))), api.OK)
}

// P501: more binds than a substitution may have: no term of it is too great, so it is told.
func TestUnifyManyBinds(t *testing.T) {
	const groups = 200
	group := func(number int) api.Term { return f("g", row(number*api.MaxArgs, api.MaxArgs)...) }
	x, y := []api.Term{v(900000)}, []api.Term{v(900001)}
	for i := range groups {
		x, y = append(x, v(900000), group(i)), append(y, group(groups+i), v(900001))
	}
	got, ok, errno := Unify(bundle(x), bundle(y))
	if want := 2*groups*api.MaxArgs - api.MaxArgs + 2; !ok || errno != api.OK || len(got) != want || want <= api.MaxNodes {
		t.Fatalf("%d binds, %v, %d", len(got), ok, errno)
	}
	for i, b := range got[:len(got)-2] {
		if b.Var != i+api.MaxArgs || text(b.T) != text(v(i%api.MaxArgs)) {
			t.Fatalf("%d is bound to %s", b.Var, text(b.T))
		}
	}
	if want := sames(900000, 2, group(0)); texts(got[len(got)-2:]) != texts(want) {
		t.Errorf("at last %s", texts(got[len(got)-2:]))
	}
}

// P501, P502, P503: of a term that is not right nothing is told, at either side, whatever the other one is.
func TestWrong(t *testing.T) {
	others := append(wrongs(), v(0), v(1), f("a"), f("g", f("a"), v(2)), chain(60, v(0)))
	for i, bad := range wrongs() {
		for k, other := range others {
			what := fmt.Sprintf("wrong term %d and term %d", i, k)
			refuses(t, what, bad, other, api.ErrArg)
			for _, pair := range [][2]api.Term{{bad, other}, {other, bad}} {
				if got, ok, errno := Match(pair[0], pair[1]); got != nil || ok || errno != api.ErrArg {
					t.Errorf("Match, %s: %s, %v, %d", what, texts(got), ok, errno)
				}
				if Variant(pair[0], pair[1]) {
					t.Errorf("Variant, %s", what)
				}
			}
		}
	}
}

// P502: variables of both of one number, those that stay, several places of one variable; and what does not match.
func TestMatch(t *testing.T) {
	a, b, last := f("a"), f("b"), api.MaxVar-1
	cases := []struct {
		pattern, t api.Term
		want       []api.Bind
	}{
		{v(0), a, binds(bind(0, a))}, {v(0), v(0), nil}, {v(3), v(3), nil}, {v(0), v(1), binds(bind(0, v(1)))}, {v(1), v(0), binds(bind(1, v(0)))}, {a, a, nil}, {v(last), v(0), binds(bind(last, v(0)))},
		{v(0), f("g", v(0)), binds(bind(0, f("g", v(0))))},
		{f("f", v(0), v(1)), f("f", v(1), v(0)), binds(bind(0, v(1)), bind(1, v(0)))},
		{f("f", v(0), v(1)), f("f", f("g", v(1)), f("g", v(0))), binds(bind(0, f("g", v(1))), bind(1, f("g", v(0))))},
		{f("f", v(5), v(2), v(5)), f("f", v(7), a, v(7)), binds(bind(2, a), bind(5, v(7)))},
		{f("f", v(5), v(2), v(5)), f("f", v(5), v(2), v(5)), nil}, {f("f", v(0), v(1)), f("f", v(0), v(0)), binds(bind(1, v(0)))},
		{f("f", v(1), f("g", v(1), b)), f("f", f("h", a, v(9)), f("g", f("h", a, v(9)), b)), binds(bind(1, f("h", a, v(9))))},
		{chain(60, v(1)), chain(60, a), binds(bind(1, a))}, {v(1), chain(60, v(1)), binds(bind(1, chain(60, v(1))))}, {v(1), flat(4000, a), binds(bind(1, flat(4000, a)))},
		{flat(4000, v(1)), flat(4000, v(2)), binds(bind(1, v(2)))}, {bundle(row(0, 3000)), bundle(row(1, 3000)), steps(3000)},
	}
	for _, c := range cases {
		if got, ok, errno := Match(c.pattern, c.t); !ok || errno != api.OK || texts(got) != texts(c.want) {
			t.Errorf("Match %.200s and %.200s: %.200s, %v, %d", text(c.pattern), text(c.t), texts(got), ok, errno)
		}
	}
	for _, c := range [][2]api.Term{
		{a, b}, {a, v(0)}, {f("g", a), v(0)}, {f("g", v(0)), v(0)}, {f("f", v(0)), f("g", v(0))}, {f("f", v(0)), f("f", v(0), v(1))}, {f("f", v(0), v(1)), f("f", v(0))}, {f("f"), f("f", a)},
		{f("f", v(0), v(0)), f("f", a, b)}, {f("f", v(0), v(0)), f("f", v(0), v(1))}, {f("f", v(0), v(0)), f("f", v(1), v(0))}, {f("f", v(0), v(0)), f("f", v(0), a)}, {f("f", v(0), a), f("f", a, v(0))},
		{f("f", v(0), f("g", v(0))), f("f", a, f("g", b))}, {f("f", v(1), f("g", v(1))), f("f", f("h", v(2)), f("g", f("h", v(3))))}, {f("f", a, v(0)), f("f", b, a)}, {f("f", v(0), a), f("f", a, b)},
		{chain(60, a), chain(60, b)}, {chain(60, a), chain(59, a)}, {bundle(many(3000, v(1))), bundle(append(many(2999, v(2)), v(3)))},
	} {
		if got, ok, errno := Match(c[0], c[1]); ok || errno != api.OK || got != nil {
			t.Errorf("Match %.200s and %.200s: %s, %v, %d", text(c[0]), text(c[1]), texts(got), ok, errno)
		}
	}
}

// steps: each variable, from 0 on, bound to the next one.
func steps(count int) (s []api.Bind) {
	for i := range count {
		s = append(s, bind(i, v(i+1)))
	}
	return s
}

// P503: one to one in both directions.
func TestVariant(t *testing.T) {
	a, last := f("a"), api.MaxVar-1
	for _, c := range [][2]api.Term{
		{a, a}, {v(0), v(0)}, {v(0), v(7)}, {v(0), v(last)}, {f("f", v(0), v(1)), f("f", v(1), v(0))}, {f("f", v(0), v(1)), f("f", v(1), v(2))}, {f("f", v(0), v(1), v(0)), f("f", v(5), v(0), v(5))},
		{f("f", v(0), f("g", v(1), a)), f("f", v(3), f("g", v(0), a))}, {f("f", v(0), v(1), v(2)), f("f", v(1), v(2), v(0))}, {chain(60, v(1)), chain(60, v(0))}, {flat(4000, v(1)), flat(4000, v(2))}, {bundle(row(0, 3000)), bundle(row(1, 3000))},
	} {
		if !Variant(c[0], c[1]) || !Variant(c[1], c[0]) {
			t.Errorf("Variant %.200s and %.200s: false", text(c[0]), text(c[1]))
		}
	}
	for _, c := range [][2]api.Term{
		{a, f("b")}, {a, v(0)}, {f("f", v(0), v(1)), f("f", v(0), v(0))}, {f("f", v(0), v(1)), f("f", v(2), v(2))}, {f("f", v(0), v(1)), f("f", v(0), a)}, {f("f", v(0)), f("g", v(0))}, {f("f", v(0)), f("f", v(0), v(1))},
		{f("f", v(0), v(1), v(0)), f("f", v(0), v(1), v(1))}, {f("f", v(0), v(1), v(2)), f("f", v(0), v(1), v(0))}, {f("f", v(0), a), f("f", a, v(0))}, {v(0), f("g", v(0))}, {bundle(row(0, 3000)), bundle(append(row(0, 2999), v(2998)))},
	} {
		if Variant(c[0], c[1]) || Variant(c[1], c[0]) {
			t.Errorf("Variant %.200s and %.200s: true", text(c[0]), text(c[1]))
		}
	}
}

// P501, P502: of any small terms, held against the plain words. P504: what is told makes both one, is not changed by itself, and makes the pattern the term.
func TestAny(t *testing.T) {
	r := rand.New(rand.NewSource(6))
	count := map[string]int{}
	for range 60000 {
		vars := 2 + r.Intn(5)
		a, b := anyTerm(r, 4, vars), anyTerm(r, 4, vars)
		s, ok, errno := Unify(a, b)
		want, may := plainUnify(a, b)
		if errno != api.OK || ok != may || texts(s) != texts(want) {
			t.Fatalf("Unify %s and %s: %s, %v, %d, not %s, %v", text(a), text(b), texts(s), ok, errno, texts(want), may)
		}
		count[fmt.Sprint("unify ", ok)]++
		if ok {
			lawful(t, a, b, s)
		}
		if r.Intn(2) == 0 {
			b = plainApply(binds(bind(0, anyTerm(r, 2, vars)), bind(1, anyTerm(r, 2, vars)), bind(3, anyTerm(r, 1, vars))), a)
		}
		m, ok, errno := Match(a, b)
		want, may = plainMatch(a, b)
		if errno != api.OK || ok != may || texts(m) != texts(want) {
			t.Fatalf("Match %s and %s: %s, %v, %d, not %s, %v", text(a), text(b), texts(m), ok, errno, texts(want), may)
		}
		count[fmt.Sprint("match ", ok)]++
		if image, errno := subst.Apply(m, a); ok && (errno != api.OK || !term.Same(image, b)) {
			t.Fatalf("Match %s and %s: %s makes it %s", text(a), text(b), texts(m), text(image))
		}
	}
	for _, what := range []string{"unify true", "unify false", "match true", "match false"} {
		if count[what] < 2000 {
			t.Errorf("%s: only %d", what, count[what])
		}
	}
}

// lawful: does s make both one, and does it stay as it is, if it is applied to itself?
func lawful(t *testing.T, a, b api.Term, s []api.Bind) {
	t.Helper()
	x, errno := subst.Apply(s, a)
	y, errno2 := subst.Apply(s, b)
	if errno != api.OK || errno2 != api.OK || !term.Same(x, y) {
		t.Fatalf("Unify %s and %s: %s makes them %s and %s", text(a), text(b), texts(s), text(x), text(y))
	}
	if twice, errno := subst.Compose(s, s); errno != api.OK || !subst.Same(twice, s) {
		t.Fatalf("Unify %s and %s: %s becomes %s", text(a), text(b), texts(s), texts(twice))
	}
}

// P504: of small terms all substitutions of some terms are tried: those that make both one are instances of what Unify tells. P503: of all renamings one makes a to b, or none.
func TestEach(t *testing.T) {
	images := []api.Term{v(0), v(1), v(2), f("a"), f("g", v(0)), f("g", v(2)), f("g", f("a")), f("f", v(0), v(1)), f("f", f("a"), f("a"))}
	r := rand.New(rand.NewSource(7))
	found, renamed, none := 0, 0, 0
	for range 600 {
		a, b := anyTerm(r, 3, 3), anyTerm(r, 3, 3)
		if r.Intn(3) == 0 {
			b = plainApply(binds(bind(0, v(r.Intn(3))), bind(1, v(r.Intn(3))), bind(2, v(r.Intn(3)))), a)
		}
		s, ok, _ := Unify(a, b)
		same := false
		for i := range len(images) * len(images) * len(images) {
			u := binds(bind(0, images[i%9]), bind(1, images[i/9%9]), bind(2, images[i/81]))
			if text(plainApply(u, a)) == text(plainApply(u, b)) {
				found++
				if !ok || !instance(u, s) {
					t.Fatalf("Unify %s and %s: %s, %v, but there is %s", text(a), text(b), texts(s), ok, texts(u))
				}
			}
			same = same || oneToOne(u) && text(plainApply(u, a)) == text(b)
		}
		if Variant(a, b) != same {
			t.Fatalf("Variant %s and %s: %v", text(a), text(b), !same)
		}
		if same {
			renamed++
		} else {
			none++
		}
	}
	if found < 5000 || renamed < 50 || none < 100 {
		t.Errorf("only %d unifiers, %d variants, %d others", found, renamed, none)
	}
}

// instance: does s, and then u, what u does alone? Just then u is an instance of s, since s is not changed by itself.
func instance(u, s []api.Bind) bool {
	for number := range 3 {
		if text(plainApply(u, plainApply(s, v(number)))) != text(plainApply(u, v(number))) {
			return false
		}
	}
	return true
}

// oneToOne: does u bind three variables to three variables?
func oneToOne(u []api.Bind) bool {
	all := map[string]int{}
	for _, b := range u {
		if b.T.Fn == "" {
			all[text(b.T)]++
		}
	}
	return len(all) == 3
}

// equations: of many variables, each with what stands only of later ones; and some of any two variables, which may not fit.
func equations(r *rand.Rand, count, more int) (x, y []api.Term) {
	for i := range count {
		later := func() api.Term { return v(i + 1 + r.Intn(9)) }
		x, y = append(x, v(i)), append(y, []api.Term{later(), later(), f("g", later()), f("f", later(), later())}[r.Intn(4)])
	}
	for range more {
		x, y = append(x, v(r.Intn(count))), append(y, v(r.Intn(count)))
	}
	return x, y
}

// P501, P504: of great terms, whose binds are many: both orders tell the same, which makes both one, and is not changed by itself.
func TestGreat(t *testing.T) {
	r := rand.New(rand.NewSource(8))
	count := map[string]int{}
	for range 500 {
		x, y := equations(r, 20+r.Intn(200), r.Intn(4))
		a, b := bundle(x), bundle(y)
		s, ok, errno := Unify(a, b)
		if other, ok2, errno2 := Unify(b, a); ok != ok2 || errno != errno2 || texts(s) != texts(other) {
			t.Fatalf("the other way round: %v, %d, not %v, %d", ok2, errno2, ok, errno)
		}
		count[fmt.Sprint(ok, int(errno))]++
		if !ok {
			continue
		}
		if twice, errno := subst.Compose(s, s); errno != api.OK || !subst.Same(twice, s) {
			t.Fatalf("%s becomes %s", texts(s), texts(twice))
		}
		for i := range x {
			if !term.Same(plainApply(s, x[i]), plainApply(s, y[i])) {
				t.Fatalf("%s does not make %s and %s one", texts(s), text(x[i]), text(y[i]))
			}
		}
	}
	if count["true 0"] < 50 || count["false 0"] < 50 || count["false 3"] < 20 {
		t.Error(count)
	}
}

// roomy: a copy of the term whose lists have spare room with something in it.
func roomy(t api.Term) api.Term {
	room := make([]api.Term, 0, len(t.Args)+2)
	for _, arg := range t.Args {
		room = append(room, roomy(arg))
	}
	copy(room[len(room):cap(room)], many(2, f("spare")))
	return api.Term{Var: t.Var, Fn: t.Fn, Args: room}
}

// untouched: is the term still as roomy made it of want?
func untouched(t, want api.Term) bool {
	all := t.Args[:cap(t.Args)]
	if t.Var != want.Var || t.Fn != want.Fn || len(all) != len(want.Args)+2 || text(all[len(all)-2]) != text(f("spare")) || text(all[len(all)-1]) != text(f("spare")) {
		return false
	}
	for i, arg := range want.Args {
		if !untouched(all[i], arg) {
			return false
		}
	}
	return true
}

// spoil: writes over all lists of the term, their spare room too, and tells whether one of them was written over before.
func spoil(t api.Term) (twice bool) {
	all := t.Args[:cap(t.Args)]
	for i := range all {
		twice = twice || all[i].Fn == "spoilt" || spoil(all[i])
		all[i] = f("spoilt")
	}
	return twice
}

// Rule 4: what is handed in is not changed, and what is handed out shares no memory with it, nor with another part of the answer.
func TestApart(t *testing.T) {
	plainA := f("h", v(0), v(1), v(2), v(3), v(0))
	plainB := f("h", f("f", v(2), f("g", f("a"))), f("g", v(2)), f("g", v(7)), f("f", v(0), v(0)), v(4))
	plainT := f("h", f("f", v(2), f("g", f("a"))), f("f", v(2), f("g", f("a"))), f("g", v(7)), f("a"), f("f", v(2), f("g", f("a"))))
	for range 2 {
		a, b, to := roomy(plainA), roomy(plainB), roomy(plainT)
		s, ok, _ := Unify(a, b)
		m, ok2, _ := Match(a, to)
		if !ok || !ok2 || len(s) != 5 || len(m) != 4 || Variant(a, b) {
			t.Fatalf("%s, %s", texts(s), texts(m))
		}
		for _, answer := range [][]api.Bind{s, m} {
			for i := range answer {
				if spoil(answer[i].T) {
					t.Error("binds of one answer share memory")
				}
			}
			copy(answer[:cap(answer)], sames(50, cap(answer), f("spoilt")))
		}
		if !untouched(a, plainA) || !untouched(b, plainB) || !untouched(to, plainT) {
			t.Fatalf("what was handed in is changed: %s, %s, %s", text(a), text(b), text(to))
		}
	}
}
