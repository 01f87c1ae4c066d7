package multi

import (
	"fmt"
	"math"
	"math/rand"
	"slices"
	"strings"
	"testing"
	"time"

	"assize/api"
	"assize/kbo"
	"assize/lits"
	"assize/lpo"
)

func v(number int) api.Term { return api.Term{Var: number} }

func f(name string, args ...api.Term) api.Term { return api.Term{Fn: name, Args: args} }

func yes(l, r api.Term) api.Lit { return api.Lit{L: l, R: r} }

func not(l, r api.Term) api.Lit { return api.Lit{Neg: true, L: l, R: r} }

func of(l ...api.Lit) api.Clause { return l }

// sign: names from the lowest to the highest, and no weights.
func sign(names ...string) kbo.Sign { return kbo.Sign{Names: names} }

// weighed: the signature with those weights.
func weighed(g kbo.Sign, weights ...int) kbo.Sign { return kbo.Sign{Names: g.Names, Weights: weights} }

// both: the orders of a signature.
func both(g kbo.Sign) []Order { return []Order{{G: g}, {Path: true, G: g}} }

// many: so many copies of a thing.
func many[T any](count int, t T) []T { return slices.Repeat([]T{t}, count) }

// names: so many, no two alike, rising.
func names(count int) []string {
	var list []string
	for i := range count {
		list = append(list, fmt.Sprintf("n%03d", i))
	}
	return list
}

// chain: f(f(..(last))), so many parts within one another.
func chain(depth int, last api.Term) api.Term {
	t := last
	for range depth - 1 {
		t = f("f", t)
	}
	return t
}

// flat: of so many parts, no deeper than it must be, with leaf at each end.
func flat(size int, leaf api.Term) api.Term {
	if size == 1 {
		return leaf
	}
	count := min(api.MaxArgs, size-1)
	t := f("f")
	for i := range count {
		share := (size - 1) / count
		if i < (size-1)%count {
			share++
		}
		t.Args = append(t.Args, flat(share, leaf))
	}
	return t
}

// wrongTerms: terms that are not right, each in another way.
func wrongTerms() []api.Term {
	bad := []api.Term{
		v(-1), v(api.MaxVar), v(math.MinInt), v(math.MaxInt),
		{Args: many(1, f("a"))}, {Var: 1, Fn: "a"}, {Var: -1, Fn: "f", Args: many(1, v(0))},
		f(strings.Repeat("n", api.MaxName+1)), f("f", many(api.MaxArgs+1, v(0))...),
	}
	for _, t := range slices.Clone(bad) {
		bad = append(bad, f("g", f("a"), f("h", t)))
	}
	return append(bad, chain(api.MaxDepth+1, f("a")), chain(1<<16, v(1)), flat(api.MaxNodes+1, f("a")), f("f", many(1<<16, v(0))...))
}

// wrongSigns: signatures that are not right, each in another way.
func wrongSigns() []kbo.Sign {
	return []kbo.Sign{
		sign(names(201)...), sign(""), sign("a", ""), sign(strings.Repeat("n", api.MaxName+1)), sign("$true"), sign("a", "$true", "b"),
		sign("a", "a"), sign("a", "b", "a"), {Weights: []int{1}}, weighed(sign("a"), 1, 1),
		weighed(sign("a"), 0), weighed(sign("a"), 1001), weighed(sign("a", "b"), 1, math.MinInt), weighed(sign("a", "b"), math.MaxInt),
	}
}

// wrongClauses: clauses that are not right, each in another way.
func wrongClauses() []api.Clause {
	a := f("a")
	list := []api.Clause{
		many(api.MaxLits+1, yes(a, a)), many(1<<20, not(a, v(0))),
		of(yes(flat(api.MaxNodes, v(0)), a)), of(not(flat(2000, a), flat(1998, a)), yes(a, f("f", a))),
	}
	for _, t := range wrongTerms() {
		list = append(list, of(yes(t, a)), of(yes(a, a), not(a, t)))
	}
	return list
}

// text: a term as a text that no other one has.
func text(t api.Term) string {
	if t.Fn == "" {
		return fmt.Sprintf("X%d", t.Var)
	}
	var args []string
	for _, arg := range t.Args {
		args = append(args, text(arg))
	}
	return fmt.Sprintf("%q(%s)", t.Fn, strings.Join(args, ","))
}

// say: literals as a text; two that are the same have one text.
func say(l ...api.Lit) string {
	var told []string
	for _, lit := range l {
		sides := []string{text(lit.L), text(lit.R)}
		slices.Sort(sides)
		told = append(told, map[bool]string{true: "not "}[lit.Neg]+strings.Join(sides, "="))
	}
	return strings.Join(told, " | ")
}

// turned: what comes of a comparison the other way round.
func turned(order int) int {
	if order == kbo.None {
		return kbo.None
	}
	return -order
}

// wantTerms: Terms answers so, and the other way round what it must then.
func wantTerms(t *testing.T, o Order, a, b api.Term, want int) {
	t.Helper()
	if got, back := o.Terms(a, b), o.Terms(b, a); got != want || back != turned(want) {
		t.Errorf("Terms of %.100s: %.200s and %.200s: %d, %d, not %d", fmt.Sprint(o), text(a), text(b), got, back, want)
	}
}

// wantLits: Lits answers so, whichever way round the sides stand, and the other way round what it must then.
func wantLits(t *testing.T, o Order, a, b api.Lit, want int) {
	t.Helper()
	flip := func(l api.Lit) api.Lit { return api.Lit{Neg: l.Neg, L: l.R, R: l.L} }
	for _, l := range of(a, flip(a)) {
		for _, m := range of(b, flip(b)) {
			if got, back := o.Lits(l, m), o.Lits(m, l); got != want || back != turned(want) {
				t.Errorf("Lits of %.100s: %.200s and %.200s: %d, %d, not %d", fmt.Sprint(o), say(l), say(m), got, back, want)
			}
		}
	}
}

// wantClauses: Clauses answers so, also of the literals from behind, and the other way round what it must then.
func wantClauses(t *testing.T, o Order, c, d api.Clause, want int) {
	t.Helper()
	behind := slices.Clone(c)
	slices.Reverse(behind)
	for _, e := range []api.Clause{c, behind} {
		if got, back := o.Clauses(e, d), o.Clauses(d, e); got != want || back != turned(want) {
			t.Errorf("Clauses of %.100s: %.300s and %.300s: %d, %d, not %d", fmt.Sprint(o), say(e...), say(d...), got, back, want)
		}
	}
}

// wantTops: which of the clause's literals are Maximal, and which are Strict, an x at the place of each.
func wantTops(t *testing.T, o Order, c api.Clause, maximal, strict string) {
	t.Helper()
	mark := func(is func(c api.Clause, i int) bool) string {
		var b strings.Builder
		for i := range c {
			b.WriteString(map[bool]string{true: "x", false: "."}[is(c, i)])
		}
		return b.String()
	}
	if got, gotStrict := mark(o.Maximal), mark(o.Strict); got != maximal || gotStrict != strict {
		t.Errorf("%.100s: %.300s: Maximal %s, Strict %s, not %s, %s", fmt.Sprint(o), say(c...), got, gotStrict, maximal, strict)
	}
}

// P901: the chapter's example: a clause and its parts, the empty one too.
func TestExample(t *testing.T) {
	a, b, x := f("a"), f("b"), v(0)
	for _, o := range both(kbo.Sign{}) {
		wantLits(t, o, not(a, b), yes(a, b), kbo.Greater)
		whole := of(yes(a, b), not(x, b), yes(x, x), yes(a, b))
		for i := range whole {
			for k := i; k <= len(whole); k++ {
				if part := whole[i:k]; len(part) < len(whole) {
					wantClauses(t, o, whole, part, kbo.Greater)
				}
			}
		}
	}
}

// P901: by kbo or by lpo, as Path says.
func TestTerms(t *testing.T) {
	x, y, a := v(0), v(1), f("a")
	g := sign("a", "f", "g")
	weight, path := Order{G: g}, Order{Path: true, G: g}
	wantTerms(t, weight, f("f", f("f", x)), f("g", x), kbo.Greater)
	wantTerms(t, path, f("f", f("f", x)), f("g", x), kbo.Less)
	wantTerms(t, weight, f("g", x), f("f", x, x), kbo.Less)
	wantTerms(t, path, f("g", x), f("f", x, x), kbo.Greater)
	wantTerms(t, Order{G: weighed(g, 1, 5)}, f("f", x), f("g", x), kbo.Greater)
	wantTerms(t, Order{Path: true, G: weighed(g, 1, 5)}, f("f", x), f("g", x), kbo.Less)
	for _, o := range both(g) {
		wantTerms(t, o, x, x, kbo.Equal)
		wantTerms(t, o, f("f", x, a), api.Term{Fn: "f", Args: []api.Term{x, {Fn: "a", Args: []api.Term{}}}}, kbo.Equal)
		wantTerms(t, o, x, y, kbo.None)
		wantTerms(t, o, x, a, kbo.None)
		wantTerms(t, o, f("f", x), x, kbo.Greater)
		wantTerms(t, o, f("g", x), f("f", x), kbo.Greater)
		wantTerms(t, o, flat(api.MaxNodes, a), flat(api.MaxNodes, a), kbo.Equal)
	}
}

// P901: literals without variables: the greatest thing that is left counts, or having more of them.
func TestLits(t *testing.T) {
	a, b, c, d := f("a"), f("b"), f("c"), f("d")
	for _, o := range append(both(kbo.Sign{}), both(weighed(sign("a", "b", "c", "d"), 1, 2, 3, 4))...) {
		for _, same := range of(yes(a, b), not(a, b), yes(a, a), not(a, a)) {
			wantLits(t, o, same, same, kbo.Equal)
		}
		rising := of(
			yes(a, a), not(a, a), yes(a, b), yes(b, b), not(a, b), not(b, b), yes(a, c), yes(b, c), yes(c, c),
			not(a, c), not(b, c), not(c, c), yes(a, d), yes(b, d), yes(c, d), yes(d, d), not(a, d), not(b, d), not(c, d), not(d, d),
		)
		for i, high := range rising {
			for _, low := range rising[:i] {
				wantLits(t, o, high, low, kbo.Greater)
			}
		}
		wantLits(t, o, yes(a, d), yes(c, b), kbo.Greater)
		wantLits(t, o, yes(a, d), not(c, c), kbo.Greater)
		wantLits(t, o, lits.Atom(f("@p")), api.Lit{Neg: true, L: f("@p"), R: lits.True()}, kbo.Less)
	}
	for _, o := range both(sign("d", "c", "b", "a")) {
		wantLits(t, o, yes(a, d), yes(c, b), kbo.Greater)
		wantLits(t, o, yes(b, b), yes(a, d), kbo.Less)
		wantLits(t, o, not(b, c), yes(b, d), kbo.Greater)
	}
}

// P901: literals with variables, of which one is often not below anything; what both have is taken away as often as both have it.
func TestLitsVariables(t *testing.T) {
	a, b, x, y, z := f("a"), f("b"), v(0), v(1), v(2)
	fx, fy := f("f", x), f("f", y)
	for _, o := range both(sign("a", "b", "f")) {
		wantLits(t, o, yes(x, y), yes(y, x), kbo.Equal)
		wantLits(t, o, yes(x, a), yes(x, b), kbo.Less)
		wantLits(t, o, yes(x, a), yes(y, a), kbo.None)
		wantLits(t, o, yes(x, x), yes(x, y), kbo.None)
		wantLits(t, o, not(x, y), yes(x, y), kbo.Greater)
		wantLits(t, o, not(x, y), yes(x, x), kbo.Greater)
		wantLits(t, o, not(x, y), yes(x, z), kbo.None)
		wantLits(t, o, not(x, x), yes(x, y), kbo.None)
		wantLits(t, o, not(x, x), yes(x, x), kbo.Greater)
		wantLits(t, o, not(x, x), not(x, y), kbo.None)
		wantLits(t, o, yes(fx, y), yes(x, y), kbo.Greater)
		wantLits(t, o, yes(fx, y), not(x, y), kbo.None)
		wantLits(t, o, yes(fx, y), not(x, x), kbo.Greater)
		wantLits(t, o, yes(fx, y), yes(x, z), kbo.None)
		wantLits(t, o, yes(fx, y), yes(fy, x), kbo.None)
		wantLits(t, o, yes(fx, fy), yes(x, y), kbo.Greater)
		wantLits(t, o, yes(fx, fy), not(x, y), kbo.Greater)
		wantLits(t, o, yes(fx, fx), yes(fx, x), kbo.Greater)
		wantLits(t, o, yes(fx, fx), yes(fx, y), kbo.None)
		wantLits(t, o, yes(f("f", x, y), a), not(x, y), kbo.Greater)
		wantLits(t, o, yes(f("f", x, y), a), not(fx, y), kbo.Greater)
		wantLits(t, o, not(fx, a), yes(fx, b), kbo.Greater)
		wantLits(t, o, not(fx, a), yes(fx, x), kbo.Greater)
		wantLits(t, o, not(fx, a), yes(fx, y), kbo.None)
	}
	weight, path := Order{G: sign("f", "g")}, Order{Path: true, G: sign("f", "g")}
	wantLits(t, weight, yes(f("g", x), x), not(f("f", fx), x), kbo.Less)
	wantLits(t, path, yes(f("g", x), x), not(f("f", fx), x), kbo.Greater)
}

// P901: a term that is not right, at each side of each literal, also where the rest would tell, or both are the same.
func TestLitsWrong(t *testing.T) {
	a, b := f("a"), f("b")
	for _, bad := range wrongTerms() {
		for _, o := range both(sign("b", "a")) {
			for _, good := range of(yes(a, b), not(a, b), yes(b, b)) {
				wantLits(t, o, yes(bad, a), good, kbo.None)
				wantLits(t, o, not(b, bad), good, kbo.None)
			}
			wantLits(t, o, yes(bad, a), yes(bad, a), kbo.None)
			wantLits(t, o, not(bad, bad), yes(bad, bad), kbo.None)
			wantTerms(t, o, bad, a, kbo.None)
			wantTerms(t, o, bad, bad, kbo.None)
		}
	}
}

// P901, P902: a signature that is not right, also where no term is compared.
func TestSignWrong(t *testing.T) {
	a, b := f("a"), f("b")
	for _, bad := range wrongSigns() {
		for _, o := range both(bad) {
			wantTerms(t, o, a, a, kbo.None)
			wantTerms(t, o, f("f", a), a, kbo.None)
			wantLits(t, o, yes(a, b), yes(a, b), kbo.None)
			wantLits(t, o, not(a, b), yes(a, b), kbo.None)
			wantClauses(t, o, nil, nil, kbo.None)
			wantClauses(t, o, of(yes(a, b)), nil, kbo.None)
			wantClauses(t, o, of(yes(a, b)), of(yes(a, b)), kbo.None)
			wantTops(t, o, of(yes(a, b)), ".", ".")
			wantTops(t, o, of(yes(a, b), yes(a, f("f", b))), "..", "..")
		}
	}
}

// P901: of literals each term by itself must be right, and no more: together they may be greater than a clause's.
func TestLitsLimits(t *testing.T) {
	great, greater := flat(api.MaxNodes, f("a")), flat(api.MaxNodes, f("b"))
	deep := chain(api.MaxDepth, v(0))
	for _, o := range both(sign("a", "b", "f")) {
		wantLits(t, o, yes(great, greater), yes(greater, great), kbo.Equal)
		wantLits(t, o, not(great, great), yes(great, great), kbo.Greater)
		wantLits(t, o, not(great, great), yes(great, greater), kbo.Less)
		wantLits(t, o, yes(deep, greater), yes(greater, deep.Args[0]), kbo.Greater)
		wantLits(t, o, yes(deep, v(api.MaxVar-1)), yes(deep, v(1)), kbo.None)
	}
}

// P901: clauses of literals that rise: the greatest one that is left counts, and how often it stands.
func TestClauses(t *testing.T) {
	a, b, c := f("a"), f("b"), f("c")
	low, middle, high := yes(a, b), not(a, b), yes(b, c)
	for _, o := range both(sign("a", "b", "c")) {
		wantClauses(t, o, nil, nil, kbo.Equal)
		wantClauses(t, o, of(), nil, kbo.Equal)
		wantClauses(t, o, of(low, middle, high), of(high, low, middle), kbo.Equal)
		wantClauses(t, o, of(low, low, middle), of(yes(b, a), not(b, a), yes(a, b)), kbo.Equal)
		rising := []api.Clause{
			nil, of(low), of(low, low), many(60, low), of(middle), of(middle, low), of(low, low, middle), of(middle, middle),
			of(middle, low, middle), many(60, middle), of(high), of(high, low), of(high, low, low), of(middle, high), of(low, middle, high),
			of(middle, high, middle), of(high, high), of(low, high, high), of(high, high, high), append(many(57, middle), high, high, high),
		}
		for i, d := range rising {
			wantClauses(t, o, d, slices.Clone(d), kbo.Equal)
			for _, e := range rising[:i] {
				wantClauses(t, o, d, e, kbo.Greater)
			}
		}
	}
}

// P901: clauses with variables.
func TestClausesVariables(t *testing.T) {
	x, y := v(0), v(1)
	p := func(t api.Term) api.Lit { return lits.Atom(f("@p", t)) }
	notP := func(t api.Term) api.Lit { return api.Lit{Neg: true, L: f("@p", t), R: lits.True()} }
	fx, fy := f("f", x), f("f", y)
	for _, o := range both(sign("f", "@p", "@q")) {
		wantClauses(t, o, of(p(x)), of(p(y)), kbo.None)
		wantClauses(t, o, of(p(x), p(y)), of(p(y), p(x)), kbo.Equal)
		wantClauses(t, o, of(p(x), p(x)), of(p(y), p(x)), kbo.None)
		wantClauses(t, o, of(p(x), p(y)), of(p(y)), kbo.Greater)
		wantClauses(t, o, of(p(fx)), of(p(x), p(x), notP(x)), kbo.Greater)
		wantClauses(t, o, of(p(fx)), of(p(x), p(y)), kbo.None)
		wantClauses(t, o, of(p(fx), p(y)), of(p(x), p(y)), kbo.Greater)
		wantClauses(t, o, of(p(fx), p(y)), of(p(x), p(y), p(y)), kbo.None)
		wantClauses(t, o, of(p(fx), p(fy)), of(p(y), notP(y), p(x)), kbo.Greater)
		wantClauses(t, o, of(p(fx), p(y)), of(p(fy), p(x)), kbo.None)
		wantClauses(t, o, of(notP(x)), of(p(x), p(x)), kbo.Greater)
		wantClauses(t, o, of(notP(x), p(x)), of(p(x), p(x), p(x)), kbo.Greater)
		wantClauses(t, o, of(notP(x), p(y)), of(p(x), notP(y)), kbo.None)
	}
	weight, path := Order{G: sign("f", "g")}, Order{Path: true, G: sign("f", "g")}
	wantClauses(t, weight, of(yes(f("g", x), x)), of(not(f("f", fx), x), yes(x, x)), kbo.Less)
	wantClauses(t, path, of(yes(f("g", x), x)), of(not(f("f", fx), x), yes(x, x)), kbo.Greater)
}

// P901: clauses that lits.Right refuses, beside whatever they are, and the greatest that it does not refuse.
func TestClausesRight(t *testing.T) {
	a := f("a")
	for _, o := range both(kbo.Sign{}) {
		for _, bad := range wrongClauses() {
			for _, other := range []api.Clause{nil, of(yes(a, a)), bad[:1], bad} {
				if got, back := o.Clauses(bad, other), o.Clauses(other, bad); got != kbo.None || back != kbo.None {
					t.Errorf("wrong clause %.100s: %d, %d", say(bad[:1]...), got, back)
				}
			}
		}
		wantClauses(t, o, many(api.MaxLits, yes(a, a)), many(api.MaxLits-1, yes(a, a)), kbo.Greater)
		great := of(not(flat(2000, a), flat(1998, a)), yes(a, a))
		wantClauses(t, o, great, great[1:], kbo.Greater)
		wantClauses(t, o, great, great[:1], kbo.Greater)
		wantClauses(t, o, great, of(great[1], great[0]), kbo.Equal)
		wantClauses(t, o, of(yes(flat(api.MaxNodes-1, v(0)), a)), of(yes(flat(api.MaxNodes-1, v(1)), a)), kbo.None)
	}
}

// P902: literals that rise, that stand twice, that are not to be compared.
func TestTops(t *testing.T) {
	a, b, c, x, y := f("a"), f("b"), f("c"), v(0), v(1)
	fx, fy := f("f", x), f("f", y)
	for _, o := range both(sign("a", "b", "c", "f")) {
		wantTops(t, o, nil, "", "")
		wantTops(t, o, of(yes(a, b)), "x", "x")
		wantTops(t, o, of(yes(a, b), not(a, b)), ".x", ".x")
		wantTops(t, o, of(yes(b, c), yes(a, b), not(a, b)), "x..", "x..")
		wantTops(t, o, of(yes(a, b), yes(a, b)), "xx", "..")
		wantTops(t, o, of(yes(a, b), yes(b, a)), "xx", "..")
		wantTops(t, o, of(not(a, b), yes(a, b), not(b, a)), "x.x", "...")
		wantTops(t, o, of(yes(a, a), not(a, b), yes(a, a)), ".x.", ".x.")
		wantTops(t, o, of(yes(x, a), yes(y, a)), "xx", "xx")
		wantTops(t, o, of(yes(x, y), yes(y, x)), "xx", "..")
		wantTops(t, o, of(yes(x, a), yes(y, a), yes(x, a)), "xxx", ".x.")
		wantTops(t, o, of(yes(fx, y), yes(x, y), yes(fy, x)), "x.x", "x.x")
		wantTops(t, o, of(yes(x, a), yes(y, b), yes(fx, a), yes(y, b)), ".xxx", "..x.")
		wantTops(t, o, append(many(api.MaxLits-1, yes(a, b)), yes(a, c)), strings.Repeat(".", 59)+"x", strings.Repeat(".", 59)+"x")
		wantTops(t, o, many(api.MaxLits, not(x, b)), strings.Repeat("x", 60), strings.Repeat(".", 60))
	}
	rule := of(yes(f("f", f("f", x)), x), yes(f("g", x), x))
	wantTops(t, Order{G: sign("f", "g")}, rule, "x.", "x.")
	wantTops(t, Order{Path: true, G: sign("f", "g")}, rule, ".x", ".x")
	wantTops(t, Order{G: weighed(sign("f", "g"), 1, 9)}, rule, ".x", ".x")
}

// P902: places at which no literal is, and clauses that are not right.
func TestTopsWrong(t *testing.T) {
	a, b := f("a"), f("b")
	for _, o := range both(kbo.Sign{}) {
		for _, c := range []api.Clause{nil, of(), of(yes(a, b)), of(yes(a, b), yes(b, b))} {
			for _, i := range []int{-1, -2, len(c), len(c) + 1, api.MaxLits, math.MinInt, math.MaxInt} {
				if o.Maximal(c, i) || o.Strict(c, i) {
					t.Errorf("%s at %d", say(c...), i)
				}
			}
			if spare := slices.Grow(slices.Clone(c), 5); o.Maximal(spare, len(c)) || o.Strict(spare, len(c)) {
				t.Errorf("%s in its spare room", say(c...))
			}
		}
		for _, bad := range wrongClauses() {
			for _, i := range []int{-1, 0, 1, len(bad) - 1, len(bad)} {
				if o.Maximal(bad, i) || o.Strict(bad, i) {
					t.Errorf("wrong clause %.100s at %d", say(bad[:1]...), i)
				}
			}
		}
	}
}

// bag: things by their texts, and how often each is there.
type bag[T any] struct {
	counts map[string]int
	things map[string]T
}

func bagOf[T any](key func(T) string, list []T, times int) bag[T] {
	b := bag[T]{map[string]int{}, map[string]T{}}
	for _, thing := range list {
		b.counts[key(thing)] += times
		b.things[key(thing)] = thing
	}
	return b
}

// above: as the chapter's words say: something is left of one, and what is left of n is below what is left of m.
func above[T any](m, n bag[T], greater func(a, b T) bool) bool {
	differ := false
	for key := range m.counts {
		differ = differ || m.counts[key] > n.counts[key]
	}
	for key, count := range n.counts {
		if count <= m.counts[key] {
			continue
		}
		covered := false
		for other := range m.counts {
			covered = covered || m.counts[other] > n.counts[other] && greater(m.things[other], n.things[key])
		}
		if !covered {
			return false
		}
		differ = true
	}
	return differ
}

// model: the orders as the chapter's words tell them.
type model struct{ o Order }

func (m model) terms(a, b api.Term) bool {
	if m.o.Path {
		return lpo.Compare(m.o.G, a, b) == kbo.Greater
	}
	return kbo.Compare(m.o.G, a, b) == kbo.Greater
}

func (m model) lits(a, b api.Lit) bool {
	bagged := func(l api.Lit) bag[api.Term] {
		return bagOf(text, []api.Term{l.L, l.R}, map[bool]int{false: 1, true: 2}[l.Neg])
	}
	return above(bagged(a), bagged(b), m.terms)
}

func (m model) clauses(c, d api.Clause) bool {
	key := func(l api.Lit) string { return say(l) }
	return above(bagOf(key, c, 1), bagOf(key, d, 1), m.lits)
}

// told: the outcome of an order that is told as "is greater", of two things, of which it is known whether they are the same.
func told[T any](greater func(a, b T) bool, a, b T, same bool) int {
	switch {
	case same:
		return kbo.Equal
	case greater(a, b):
		return kbo.Greater
	case greater(b, a):
		return kbo.Less
	}
	return kbo.None
}

// sorted: a clause as a text that it has in common with those that have the same literals, as often.
func sorted(c api.Clause) string {
	var list []string
	for _, l := range c {
		list = append(list, say(l))
	}
	slices.Sort(list)
	return strings.Join(list, " | ")
}

// someTerms: small ones, with variables and without.
func someTerms() []api.Term {
	x, y, a, b := v(0), v(1), f("a"), f("b")
	return []api.Term{x, y, a, b, f("f", x), f("f", y), f("f", a), f("g", x, y), f("$true")}
}

// someLits: all of someTerms, each once.
func someLits() []api.Lit {
	var list []api.Lit
	for i, l := range someTerms() {
		for _, r := range someTerms()[:i+1] {
			list = append(list, yes(l, r), not(r, l))
		}
	}
	return list
}

// someSigns: right ones in which the names of someTerms stand in several orders.
func someSigns() []kbo.Sign {
	return []kbo.Sign{{}, sign("g", "f", "b", "a"), weighed(sign("b", "g", "f"), 2, 1, 3)}
}

// P901, P903: all small literals, each held against each; never both ways; without variables never None.
func TestLitsOfPairs(t *testing.T) {
	list := someLits()
	ground := func(l api.Lit) bool { return len(lits.Vars(of(l))) == 0 }
	for _, g := range someSigns() {
		for _, o := range both(g) {
			m, met := model{o}, map[int]int{}
			for i, a := range list {
				for k, b := range list[:i+1] {
					want := told(m.lits, a, b, i == k)
					wantLits(t, o, a, b, want)
					met[want]++
					if want == kbo.None && ground(a) && ground(b) || want == kbo.Greater && m.lits(b, a) {
						t.Errorf("%v: %s and %s: %d", o, say(a), say(b), want)
					}
				}
			}
			if len(met) != 4 || min(met[kbo.Less], met[kbo.Greater], met[kbo.None]) < 200 {
				t.Errorf("%v: too few: %v", o, met)
			}
		}
	}
}

// anyTerm: at most so deep, with few names and variables below vars.
func anyTerm(r *rand.Rand, depth, vars int) api.Term {
	if vars > 0 && r.Intn(3) == 0 {
		return v(r.Intn(vars))
	}
	if depth <= 1 || r.Intn(3) == 0 {
		return f([]string{"a", "b", "c"}[r.Intn(3)])
	}
	if r.Intn(2) == 0 {
		return f("f", anyTerm(r, depth-1, vars))
	}
	return f("g", anyTerm(r, depth-1, vars), anyTerm(r, depth-1, vars))
}

func anyLit(r *rand.Rand, depth, vars int) api.Lit {
	return api.Lit{Neg: r.Intn(2) == 0, L: anyTerm(r, depth, vars), R: anyTerm(r, depth, vars)}
}

func anyClause(r *rand.Rand, most, depth, vars int) api.Clause {
	var c api.Clause
	for range r.Intn(most + 1) {
		c = append(c, anyLit(r, depth, vars))
		if r.Intn(4) == 0 {
			c = append(c, c[r.Intn(len(c))])
		}
	}
	return c
}

// anyKin: the clause with some literals gone, changed, flipped, put in again, and in another order.
func anyKin(r *rand.Rand, c api.Clause, depth, vars int) api.Clause {
	var kin api.Clause
	for _, l := range c {
		switch r.Intn(8) {
		case 0:
		case 1:
			kin = append(kin, anyLit(r, depth, vars))
		case 2:
			kin = append(kin, l, l)
		case 3:
			kin = append(kin, api.Lit{Neg: l.Neg, L: anyTerm(r, depth, vars), R: l.L})
		case 4:
			kin = append(kin, api.Lit{Neg: !l.Neg, L: l.L, R: l.R})
		default:
			kin = append(kin, api.Lit{Neg: l.Neg, L: l.R, R: l.L})
		}
	}
	r.Shuffle(len(kin), func(i, k int) { kin[i], kin[k] = kin[k], kin[i] })
	return kin
}

// anyOrder: of a right signature of some of those names, some of them with a weight.
func anyOrder(r *rand.Rand) Order {
	all := []string{"a", "b", "c", "f", "g", "other"}
	r.Shuffle(len(all), func(i, k int) { all[i], all[k] = all[k], all[i] })
	g := sign(all[:r.Intn(len(all)+1)]...)
	for range r.Intn(len(g.Names) + 1) {
		g.Weights = append(g.Weights, 1+r.Intn(4))
	}
	return Order{Path: r.Intn(2) == 0, G: g}
}

// P901, P903: clauses by chance, held against the words of the chapter; never both ways; without variables never None.
func TestClausesByChance(t *testing.T) {
	r := rand.New(rand.NewSource(9))
	met := map[int]int{}
	for range 12000 {
		o, depth, vars := anyOrder(r), 1+r.Intn(3), r.Intn(4)
		c := anyClause(r, 4, depth, vars)
		d := anyKin(r, c, depth, vars)
		if r.Intn(4) == 0 {
			d = anyClause(r, 4, depth, vars)
		}
		m := model{o}
		want := told(m.clauses, c, d, sorted(c) == sorted(d))
		wantClauses(t, o, c, d, want)
		met[want]++
		if want == kbo.None && vars == 0 || m.clauses(c, d) && m.clauses(d, c) {
			t.Errorf("%v: %s and %s: %d", o, say(c...), say(d...), want)
		}
	}
	if len(met) != 4 || min(met[kbo.Less], met[kbo.Equal], met[kbo.Greater], met[kbo.None]) < 1000 {
		t.Errorf("too few: %v", met)
	}
}

// P902, P903: clauses by chance, held against the words of the chapter; each clause that is not empty has one that is maximal.
func TestTopsByChance(t *testing.T) {
	r := rand.New(rand.NewSource(10))
	met := map[string]int{}
	for range 6000 {
		o := anyOrder(r)
		m, c := model{o}, anyClause(r, 5, 1+r.Intn(3), r.Intn(4))
		var maximal, strict strings.Builder
		for i, l := range c {
			beaten, again := false, false
			for k, other := range c {
				beaten = beaten || m.lits(other, l)
				again = again || k != i && say(l) == say(other)
			}
			maximal.WriteString(map[bool]string{true: ".", false: "x"}[beaten])
			strict.WriteString(map[bool]string{true: ".", false: "x"}[beaten || again])
		}
		wantTops(t, o, c, maximal.String(), strict.String())
		if len(c) > 0 && !strings.Contains(maximal.String(), "x") {
			t.Errorf("%v: none is maximal: %s", o, say(c...))
		}
		met[fmt.Sprint(strings.Count(maximal.String(), "x") > 1, maximal.String() == strict.String())]++
	}
	if min(met["true true"], met["true false"], met["false true"]) < 100 {
		t.Errorf("too few: %v", met)
	}
}

// through: Greater of these things goes through a third one, and never both ways; how many chains of three there are.
func through[T any](t *testing.T, list []T, order func(a, b T) int) (chains int) {
	t.Helper()
	greater := make([][]bool, len(list))
	for i, a := range list {
		for _, b := range list {
			greater[i] = append(greater[i], order(a, b) == kbo.Greater)
		}
	}
	for i := range list {
		for k := range list {
			for l := range list {
				if !greater[i][k] || !greater[k][l] {
					continue
				}
				chains++
				if !greater[i][l] || greater[l][i] || greater[k][i] {
					t.Fatalf("%v, %v, %v", list[i], list[k], list[l])
				}
			}
		}
	}
	return chains
}

// P903: Greater goes through a third one, never both ways.
func TestLawOfThree(t *testing.T) {
	r := rand.New(rand.NewSource(11))
	for _, g := range someSigns() {
		for _, o := range both(g) {
			if chains := through(t, someLits(), o.Lits); chains < 5000 {
				t.Errorf("%v: only %d chains of literals", o, chains)
			}
			list := []api.Clause{nil}
			for range 60 {
				c := anyClause(r, 3, 2, 2)
				list = append(list, c, anyKin(r, c, 2, 2))
			}
			if chains := through(t, list, o.Clauses); chains < 5000 {
				t.Errorf("%v: only %d chains of clauses", o, chains)
			}
		}
	}
}

// P903: a clause with a literal more is greater, wherever it stands.
func TestLawOfMore(t *testing.T) {
	r := rand.New(rand.NewSource(12))
	for range 5000 {
		o, c := anyOrder(r), anyClause(r, 6, 3, 3)
		more := anyLit(r, 3, 3)
		if len(c) > 0 && r.Intn(3) == 0 {
			more = c[r.Intn(len(c))]
		}
		wantClauses(t, o, slices.Insert(slices.Clone(c), r.Intn(len(c)+1), more), c, kbo.Greater)
	}
}

// P903: a right clause has a literal that is maximal, also one of as many literals as may be.
func TestLawOfMaximal(t *testing.T) {
	r := rand.New(rand.NewSource(13))
	for range 60 {
		o := anyOrder(r)
		var c api.Clause
		for range api.MaxLits {
			c = append(c, anyLit(r, 4, 4))
		}
		tops := 0
		for i, l := range c {
			isTop := !slices.ContainsFunc(c, func(other api.Lit) bool { return o.Lits(other, l) == kbo.Greater })
			if isTop {
				tops++
			}
			if o.Maximal(c, i) != isTop || o.Strict(c, i) && !isTop {
				t.Errorf("%v: literal %d of %s", o, i, say(c...))
			}
		}
		if tops == 0 {
			t.Errorf("%v: none of %s", o, say(c...))
		}
	}
}

// soon: what is done there must end soon. It runs apart, so that it can be given up.
func soon(t *testing.T, what string, do func()) {
	t.Helper()
	done := make(chan bool)
	go func() {
		defer close(done)
		do()
	}()
	select {
	case <-done:
	case <-time.After(3 * time.Minute):
		t.Fatalf("%s does not end soon", what)
	}
}

// greatClause: as many literals as may be, each of other variables than the rest, with many names.
func greatClause() api.Clause {
	all := names(200)
	var c api.Clause
	for i := range api.MaxLits {
		side := v(i)
		for k := range 9 {
			side = f(all[(i+7*k)%150], side, f(all[(i*k+k)%190]), v(i))
		}
		c = append(c, not(f("n199", side), f("n198", side)))
	}
	return c
}

// P901, P902: clauses near the limits, with a great signature: each literal is above one of the other clause alone.
func TestSoon(t *testing.T) {
	high := greatClause()
	var low api.Clause
	for _, l := range high {
		low = append(low, not(l.L.Args[0], l.R.Args[0]))
	}
	if errno := lits.Right(high); errno != api.OK || lits.Size(high) < api.MaxNodes*3/4 {
		t.Fatalf("Right: %d, Size: %d", errno, lits.Size(high))
	}
	mixed := append(slices.Clone(high[:30]), low[:30]...)
	for _, o := range both(sign(names(200)...)) {
		soon(t, fmt.Sprintf("Clauses, Path %v", o.Path), func() {
			if got, back := o.Clauses(high, low), o.Clauses(low, high); got != kbo.Greater || back != kbo.Less {
				t.Errorf("Path %v: %d, %d", o.Path, got, back)
			}
		})
		soon(t, fmt.Sprintf("Maximal, Path %v", o.Path), func() {
			for _, i := range []int{0, 29, 30, 59} {
				if isTop := i < 30; o.Maximal(mixed, i) != isTop || o.Strict(mixed, i) != isTop {
					t.Errorf("Path %v: literal %d", o.Path, i)
				}
			}
		})
	}
}

// What is handed in is not changed, its spare room neither, and nothing is kept from call to call.
func TestHandedIn(t *testing.T) {
	spare := func() (Order, api.Clause, api.Clause) {
		args := append(make([]api.Term, 0, 8), v(0), f("b", v(1)))
		whole := append(make(api.Clause, 0, 8), yes(f("f", args...), f("a")), not(f("a"), v(0)), not(v(0), f("a")), yes(v(0), v(1)))
		behind := slices.Clone(whole)
		slices.Reverse(behind)
		return Order{G: kbo.Sign{Names: append(make([]string, 0, 8), "f", "b", "a"), Weights: append(make([]int, 0, 8), 1, 1)}}, whole[:3], slices.Grow(behind, 8)[:2]
	}
	look := func(o Order, c, d api.Clause) string {
		var b strings.Builder
		fmt.Fprintf(&b, "%v %q %v", o.Path, o.G.Names[:cap(o.G.Names)], o.G.Weights[:cap(o.G.Weights)])
		for _, l := range append(slices.Clone(c[:cap(c)]), d[:cap(d)]...) {
			fmt.Fprintf(&b, " %v %v %v", l, l.L.Args[:cap(l.L.Args)], l.R.Args[:cap(l.R.Args)])
		}
		return b.String()
	}
	o, c, d := spare()
	before := look(o, c, d)
	for range 3 {
		wantClauses(t, o, c, d, kbo.Greater)
		wantClauses(t, Order{G: sign("b", "b")}, c, d, kbo.None)
		wantClauses(t, Order{Path: true, G: o.G}, c, c, kbo.Equal)
		wantLits(t, o, c[0], c[1], kbo.Greater)
		wantTops(t, o, c, "x..", "x..")
		wantTops(t, o, d, "xx", "xx")
	}
	if after := look(o, c, d); after != before {
		t.Errorf("handed in: %s, then %s", before, after)
	}
}
