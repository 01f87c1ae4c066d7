package lpo

import (
	"fmt"
	"math"
	"math/rand"
	"slices"
	"strings"
	"testing"
	"time"

	"assize/api"
	"assize/kbo"
	"assize/subst"
	"assize/term"
)

func v(number int) api.Term { return api.Term{Var: number} }

func f(name string, args ...api.Term) api.Term { return api.Term{Fn: name, Args: args} }

// sign: names from the lowest to the highest, and no weights.
func sign(names ...string) kbo.Sign { return kbo.Sign{Names: names} }

// weighed: the signature with those weights.
func weighed(g kbo.Sign, weights ...int) kbo.Sign { return kbo.Sign{Names: g.Names, Weights: weights} }

// many: so many copies of a thing.
func many[T any](count int, t T) []T { return slices.Repeat([]T{t}, count) }

// names: so many, no two alike.
func names(count int) []string {
	var list []string
	for i := range count {
		list = append(list, fmt.Sprint("n", i))
	}
	return list
}

// chain: f(f(..(last))), so many parts within one another.
func chain(depth int, last api.Term) api.Term {
	t := last
	for range depth - 1 {
		t = f("f", t)
	}
	return t
}

// tree: of that many leaves, each made anew, with width arguments at each level but the lowest.
func tree(name string, width, leaves int, leaf func() api.Term) api.Term {
	if leaves == 1 {
		return leaf()
	}
	t := f(name)
	count := min(width, leaves)
	for i := range count {
		share := leaves / count
		if i < leaves%count {
			share++
		}
		t.Args = append(t.Args, tree(name, width, share, leaf))
	}
	return t
}

// flat: of so many parts, no deeper than it must be, with leaf at each end but the last, where last stands.
func flat(size int, leaf, last api.Term) api.Term {
	if size == 1 {
		return last
	}
	count := min(api.MaxArgs, size-1)
	t := f("f")
	for i := range count {
		share := (size - 1) / count
		if i < (size-1)%count {
			share++
		}
		end := leaf
		if i == count-1 {
			end = last
		}
		t.Args = append(t.Args, flat(share, leaf, end))
	}
	return t
}

// wrongTerms: terms that are not right, each in another way.
func wrongTerms() []api.Term {
	bad := []api.Term{
		v(-1), v(api.MaxVar), v(math.MinInt), v(math.MaxInt),
		{Args: many(1, f("a"))}, {Var: 3, Args: many(2, v(1))}, {Var: 1, Fn: "a"}, {Var: -1, Fn: "f", Args: many(1, v(0))},
		f(strings.Repeat("n", api.MaxName+1)), f("f", many(api.MaxArgs+1, v(0))...),
	}
	for _, t := range slices.Clone(bad) {
		bad = append(bad, f("g", f("a"), f("h", t)))
	}
	return append(bad, chain(api.MaxDepth+1, f("a")), chain(1<<16, v(1)), flat(api.MaxNodes+1, f("a"), f("a")), f("f", many(1<<16, v(0))...))
}

// wrongSigns: signatures that are not right, each in another way.
func wrongSigns() []kbo.Sign {
	return []kbo.Sign{
		sign(names(201)...), sign(""), sign("a", ""), sign(strings.Repeat("n", api.MaxName+1)), sign("$true"), sign("a", "$true", "b"),
		sign("a", "a"), sign("a", "b", "a"), {Weights: []int{1}}, weighed(sign("a"), 1, 1),
		weighed(sign("a"), 0), weighed(sign("a"), -1), weighed(sign("a"), 1001), weighed(sign("a", "b"), 1, math.MinInt), weighed(sign("a", "b"), math.MaxInt),
	}
}

// text: a term as a text that no other one has.
func text(t api.Term) string {
	if t.Fn == "" {
		return fmt.Sprintf("X%d", t.Var)
	}
	var args []string
	for _, arg := range t.Args {
		args = append(args, text(arg))
	}
	return fmt.Sprintf("%q(%s)", t.Fn, strings.Join(args, ","))
}

// wantOrder: Compare answers so, and the other way round what it must then.
func wantOrder(t *testing.T, g kbo.Sign, a, b api.Term, want int) {
	t.Helper()
	if got := Compare(g, a, b); got != want {
		t.Errorf("Compare(%.100s, %.200s, %.200s): %d, not %d", fmt.Sprint(g), text(a), text(b), got, want)
	}
	back := want
	if want != kbo.None {
		back = -want
	}
	if got := Compare(g, b, a); got != back {
		t.Errorf("Compare(%.100s, %.200s, %.200s): %d, not %d", fmt.Sprint(g), text(b), text(a), got, back)
	}
}

// P801: the chapter's example.
func TestExample(t *testing.T) {
	g, x, y := sign("a", "f", "g"), v(0), v(1)
	wantOrder(t, g, f("g", x, y), f("f", y), kbo.Greater)
	wantOrder(t, g, f("f", x), f("g", x), kbo.Less)
	wantOrder(t, g, f("f", x), y, kbo.None)
}

// P801: the same; variables; variables that stand in the other one, and such that don't.
func TestCompareVariables(t *testing.T) {
	a, x, y, g := f("a"), v(0), v(1), kbo.Sign{}
	for _, same := range []api.Term{a, x, v(api.MaxVar - 1), f("f", x, f("g", y, x)), {Fn: "a", Args: []api.Term{}}, f("$true")} {
		wantOrder(t, g, same, same, kbo.Equal)
	}
	wantOrder(t, g, a, api.Term{Fn: "a", Args: []api.Term{}}, kbo.Equal)
	wantOrder(t, g, f("f", api.Term{Args: []api.Term{}}, a), f("f", x, api.Term{Fn: "a", Args: []api.Term{}}), kbo.Equal)
	wantOrder(t, g, x, y, kbo.None)
	wantOrder(t, g, x, v(api.MaxVar-1), kbo.None)
	wantOrder(t, g, a, x, kbo.None)
	wantOrder(t, g, f("$true"), x, kbo.None)
	wantOrder(t, g, f("f", x), x, kbo.Greater)
	wantOrder(t, g, f("$true", x), x, kbo.Greater)
	wantOrder(t, g, f("f", x), y, kbo.None)
	wantOrder(t, g, f("f", a), x, kbo.None)
	wantOrder(t, g, f("f", a, f("g", y, x)), x, kbo.Greater)
	wantOrder(t, g, f("f", a, f("g", y, y)), x, kbo.None)
	wantOrder(t, g, f("f", x), f("f", y), kbo.None)
	wantOrder(t, g, f("f", x), f("f", a), kbo.None)
	wantOrder(t, g, f("f", x), a, kbo.Greater)
	wantOrder(t, g, f("f", x), f("h"), kbo.None)
	wantOrder(t, g, f("f", x, y), f("f", y, x), kbo.None)
	wantOrder(t, g, f("f", x, y), f("f", x), kbo.Greater)
	wantOrder(t, g, f("f", x, x), f("f", y), kbo.None)
}

// P801: by a symbol that is above: a is greater than each of b's arguments, however great or many they are.
func TestCompareSymbols(t *testing.T) {
	a, b, x, y := f("a"), f("b"), v(0), v(1)
	g := sign("a", "b", "f", "g", "h")
	wantOrder(t, g, f("g", x), f("f", f("f", f("f", x, x), x), f("f", b)), kbo.Greater)
	wantOrder(t, g, f("g", x), f("f", f("f", x), y), kbo.None)
	wantOrder(t, g, f("g", x), f("f", f("g", x)), kbo.Less)
	wantOrder(t, g, f("g", x), f("f", f("h", x)), kbo.Less)
	wantOrder(t, g, f("g", x), f("f", f("h")), kbo.None)
	wantOrder(t, g, f("g", x), f("f", f("g", a)), kbo.None)
	wantOrder(t, g, f("g", x), f("f", y, f("g", x)), kbo.Less)
	wantOrder(t, g, f("g", x), f("f", y, f("g", y)), kbo.None)
	wantOrder(t, g, f("g", b), f("f", f("g", a), f("g", a)), kbo.Greater)
	wantOrder(t, g, f("h"), f("g", f("g", f("g", a), b), f("f", a)), kbo.Greater)
	wantOrder(t, g, f("h"), f("g", a, f("h", a)), kbo.Less)
	wantOrder(t, g, f("h"), f("g", a, x), kbo.None)
	wantOrder(t, g, f("h"), f("g", a, f("f", f("h"))), kbo.Less)
	wantOrder(t, g, f("h"), f("g", a, f("f", x, f("h"))), kbo.Less)
	wantOrder(t, g, f("f", f("h", x)), f("g", x, x), kbo.Greater)
	wantOrder(t, g, f("f", f("h", x)), f("g", f("h", x)), kbo.Less)
	wantOrder(t, g, f("f", f("h", x), y), f("g", f("h", x)), kbo.None)
	wantOrder(t, g, f("f", y, f("g", f("h", x))), f("g", f("h", x)), kbo.Greater)
	wantOrder(t, g, f("f", y, f("g", f("h", x))), f("g", x, f("h", x)), kbo.None)
}

// P801: of one symbol: the first arguments that are not the same count, and those behind must be below the whole.
func TestCompareArguments(t *testing.T) {
	a, b, x, y := f("a"), f("b"), v(0), v(1)
	g := sign("a", "b", "e", "f", "g")
	wantOrder(t, g, f("f", b), f("f", a), kbo.Greater)
	wantOrder(t, g, f("f", a, b), f("f", b, a), kbo.Less)
	wantOrder(t, g, f("f", x, b, a), f("f", x, a, b), kbo.Greater)
	wantOrder(t, g, f("f", f("f", x, y), x), f("f", x, f("f", y, x)), kbo.Greater)
	wantOrder(t, g, f("f", f("e", x), y), f("f", x, f("f", x, y)), kbo.Greater)
	wantOrder(t, g, f("f", f("e", x), y), f("f", x, f("g", x)), kbo.None)
	wantOrder(t, g, f("f", f("e", x), y), f("f", x, f("g", f("f", f("e", x), y))), kbo.Less)
	wantOrder(t, g, f("f", b, a), f("f", a, f("f", b, a)), kbo.Less)
	wantOrder(t, g, f("f", b, a), f("f", a, f("f", b)), kbo.Greater)
	wantOrder(t, g, f("f", b, a, x), f("f", a, f("g", a), x), kbo.None)
	wantOrder(t, g, f("f", x, f("g", x, y)), f("f", y, x), kbo.Greater)
	wantOrder(t, g, f("f", x, f("e", x, y)), f("f", y, x), kbo.None)
	wantOrder(t, g, f("f", x, f("f", y, x)), f("f", y, x), kbo.Greater)
	wantOrder(t, g, f("f", x, f("g", f("f", y, x))), f("f", y, x), kbo.Greater)
	wantOrder(t, g, f("f", f("f", y, x), x), f("f", y, x), kbo.Greater)
	wantOrder(t, g, f("f", x, y, f("g", x, y)), f("f", y, x, f("g", x, y)), kbo.None)
	wantOrder(t, g, f("f", x, y, f("g", x, y, a)), f("f", y, x, f("g", x, y)), kbo.Greater)
	wantOrder(t, g, f("f", x, y, f("f", y, x, a)), f("f", y, x, a), kbo.Greater)
	wantOrder(t, g, f("f", x, y, a), f("f", y, x, f("f", y, y, a)), kbo.None)
	wantOrder(t, g, f("f", x, y, a), f("f", y, x, f("f", x, y, b)), kbo.Less)
}

// P801: which symbol is above: by the names of the signature, by bytes, by the number of arguments; $true is below all.
func TestCompareSign(t *testing.T) {
	a, b, c, x := f("a"), f("b"), f("c"), v(0)
	wantOrder(t, kbo.Sign{}, a, b, kbo.Less)
	wantOrder(t, sign("b", "a"), a, b, kbo.Greater)
	wantOrder(t, sign("b", "a"), c, b, kbo.Less)
	wantOrder(t, sign("b", "a"), c, f("$true"), kbo.Greater)
	wantOrder(t, sign("a"), f("\x00"), f("$true"), kbo.Greater)
	wantOrder(t, kbo.Sign{}, f("\xff", x), f("z", x, x), kbo.Greater)
	wantOrder(t, kbo.Sign{}, f("\xff", x), f("\xff\x00", x), kbo.Less)
	wantOrder(t, kbo.Sign{}, f("a"), f("$true", f("$true"), f("$true", f("$true"))), kbo.Greater)
	wantOrder(t, kbo.Sign{}, f("$true", x, x), f("$true", f("$true", x)), kbo.Greater)
	wantOrder(t, kbo.Sign{}, f("$true", b), f("a", a), kbo.Greater)
	wantOrder(t, kbo.Sign{}, f("$true", a), f("a", a), kbo.Less)
	wantOrder(t, sign("b", "f"), f("f", b, b), f("f", f("f", b)), kbo.Greater)
	wantOrder(t, sign("b", "f"), f("f", b, b), f("f", f("f", b, b)), kbo.Less)
	wantOrder(t, sign("f", "b"), f("f", x, x), f("f", f("f", f("f", x))), kbo.Greater)
	wantOrder(t, sign("f", "b"), f("f", b), f("f"), kbo.Greater)
	all := sign(names(200)...)
	wantOrder(t, all, f("n199"), f("n198", f("n197"), f("zz")), kbo.Greater)
	wantOrder(t, all, f("n0"), f("z", f("zz"), f("n")), kbo.Greater)
	wantOrder(t, all, f("n10"), f("n9"), kbo.Greater)
	for _, weights := range [][]int{{1}, {1000, 1}, {1, 1000}} {
		wantOrder(t, weighed(sign("b", "a"), weights...), a, f("c", f("b", b, b)), kbo.Greater)
		wantOrder(t, weighed(sign("b", "a"), weights...), f("a", x), f("b", x, x, x), kbo.Greater)
	}
}

// P801: a signature or a term that is not right, beside whatever it is.
func TestCompareWrong(t *testing.T) {
	goods := []api.Term{f("a"), v(0), f("f", v(1), f("b"))}
	for _, bad := range wrongTerms() {
		wantOrder(t, kbo.Sign{}, bad, bad, kbo.None)
		wantOrder(t, sign("f", "a"), f("f", bad), bad, kbo.None)
		for _, good := range goods {
			wantOrder(t, kbo.Sign{}, good, bad, kbo.None)
		}
	}
	for _, bad := range wrongSigns() {
		for _, a := range goods {
			for _, b := range goods {
				wantOrder(t, bad, a, b, kbo.None)
			}
		}
	}
}

// P801: the deepest, the widest and the greatest terms, which differ at their ends.
func TestCompareLimits(t *testing.T) {
	deep := func(last api.Term) api.Term { return chain(api.MaxDepth, last) }
	wide := func(last api.Term) api.Term { return f("f", append(many(api.MaxArgs-1, v(3)), last)...) }
	great := func(last api.Term) api.Term { return flat(api.MaxNodes, v(api.MaxVar-1), last) }
	x, a, b := v(0), f(strings.Repeat("m", api.MaxName-1)+"a"), f(strings.Repeat("m", api.MaxName-1)+"b")
	for _, build := range []func(api.Term) api.Term{deep, wide, great} {
		wantOrder(t, kbo.Sign{}, build(b), build(b), kbo.Equal)
		wantOrder(t, kbo.Sign{}, build(b), build(a), kbo.Greater)
		wantOrder(t, sign(b.Fn, a.Fn), build(b), build(a), kbo.Less)
		wantOrder(t, kbo.Sign{}, build(x), build(a), kbo.None)
		wantOrder(t, kbo.Sign{}, build(x), build(v(1)), kbo.None)
		wantOrder(t, kbo.Sign{}, build(x), x, kbo.Greater)
		wantOrder(t, kbo.Sign{}, build(x), v(1), kbo.None)
		wantOrder(t, sign("a", "f"), build(b), b, kbo.Greater)
	}
	wantOrder(t, kbo.Sign{}, deep(x), chain(api.MaxDepth-1, x), kbo.Greater)
	wantOrder(t, sign("f", "g"), f("g", x), deep(x), kbo.Greater)
	wantOrder(t, sign("f", "g"), f("g", x, v(api.MaxVar-1)), great(x), kbo.Greater)
	wantOrder(t, sign("f", "g"), f("g", x), great(x), kbo.None)
}

// soon: what is done there must end soon. It runs apart, so that it can be given up.
func soon(t *testing.T, what string, do func()) {
	t.Helper()
	done := make(chan bool)
	go func() {
		defer close(done)
		do()
	}()
	select {
	case <-done:
	case <-time.After(3 * time.Minute):
		t.Fatalf("%s does not end soon", what)
	}
}

// swapped: the term with X0 and X1 in each other's place.
func swapped(t api.Term) api.Term {
	if t.Fn == "" && t.Var < 2 {
		return v(1 - t.Var)
	}
	args := make([]api.Term, len(t.Args))
	for i, arg := range t.Args {
		args[i] = swapped(arg)
	}
	return api.Term{Var: t.Var, Fn: t.Fn, Args: args}
}

// hardTerms: great ones with X0 and X1 all over, whose parts are met again on many ways while two of them are compared.
func hardTerms() []api.Term {
	spine, turning, twice, count := v(1), v(1), v(1), 0
	for i := range api.MaxDepth - 1 {
		spine = f("f", v(0), spine)
		turning = f("f", v(i%2), turning)
		if i < 9 {
			twice = f("f", v(0), v(1), twice, twice)
		}
	}
	list := []api.Term{spine, turning, twice}
	for _, width := range []int{2, api.MaxArgs} {
		plain := func() api.Term { return f("h", v(0), v(1)) }
		apart := func() api.Term { count++; return f("h", v(0), v(1), f(fmt.Sprintf("c%05d", count))) }
		rising := func() api.Term { count++; return f(fmt.Sprintf("k%05d", count), v(count%2), v(1-count%2)) }
		list = append(list, tree("f", width, 1000, plain), tree("f", width, 800, apart), tree("g", width, 800, apart), tree("f", width, 1000, rising))
	}
	return list
}

// P801, P802: terms near the limits, by what the laws say of them: neither a term nor what it becomes by swapping two
// variables can be greater, since swapping them again would make it less.
func TestCompareSoon(t *testing.T) {
	hard := hardTerms()
	soon(t, "Compare of swapped terms", func() {
		for _, a := range hard {
			wantOrder(t, kbo.Sign{}, a, swapped(a), kbo.None)
		}
	})
	soon(t, "Compare of hard terms", func() {
		for i, a := range hard {
			if errno := term.Right(a); errno != api.OK {
				t.Errorf("hard term %d: %d", i, errno)
			}
			b := hard[(i+1)%len(hard)]
			if order := Compare(kbo.Sign{}, a, b); order == kbo.Equal {
				t.Errorf("%.100s and %.100s: %d", text(a), text(b), order)
			} else {
				wantOrder(t, kbo.Sign{}, swapped(a), swapped(b), order)
			}
		}
	})
}

// P801: many variables and many names, of which each part has others.
func TestCompareSoonApart(t *testing.T) {
	count := 0
	variable := func() api.Term { count++; return v(count * 7 % 5000) }
	constant := func() api.Term { count++; return f(fmt.Sprint("c", count)) }
	all := sign(names(200)...)
	soon(t, "Compare of many variables", func() {
		for _, width := range []int{2, 5, 15} {
			a, b := tree("f", width, 1900, variable), tree("f", width, 1900, variable)
			wantOrder(t, all, a, b, kbo.None)
			wantOrder(t, all, f("g", a, v(1)), f("f", a, v(1)), kbo.Greater)
			a, b = tree("f", width, 600, variable), tree("f", width, 600, variable)
			wantOrder(t, all, f("g", f("e", b), a), f("f", f("f", a, b), b), kbo.Greater)
			wantOrder(t, all, f("f", a, b), f("f", b, a), kbo.None)
		}
	})
	soon(t, "Compare of many names", func() {
		for _, width := range []int{2, 5, 15} {
			a := tree("f", width, 1900, constant)
			b := tree("f", width, 1900, constant)
			if order := Compare(all, a, b); order != kbo.Less && order != kbo.Greater {
				t.Errorf("width %d: %d", width, order)
			}
			wantOrder(t, all, f("n0"), f("f", a), kbo.Greater)
			a, b = tree("f", width, 950, constant), tree("f", width, 950, constant)
			wantOrder(t, all, f("f", a, b), f("f", a, a), Compare(all, b, a))
		}
	})
}

// model: the order as the chapter's words tell it; what was found is kept by the terms' texts.
type model struct {
	g     kbo.Sign
	found map[string]bool
}

func (m model) greater(a, b api.Term) bool {
	key := text(a) + " " + text(b)
	is, known := m.found[key]
	if !known {
		is = a.Fn != "" && (m.holds(a, b) || m.argument(a, b) || m.wins(a, b))
		m.found[key] = is
	}
	return is
}

// holds: b is a variable that stands in a.
func (m model) holds(a, b api.Term) bool {
	return b.Fn == "" && slices.Contains(term.Vars(a), b.Var)
}

// argument: an argument of a is b, or greater than b.
func (m model) argument(a, b api.Term) bool {
	return slices.ContainsFunc(a.Args, func(arg api.Term) bool { return text(arg) == text(b) || m.greater(arg, b) })
}

// wins: b is a function, a is greater than each of its arguments, and its symbol or its arguments are ahead.
func (m model) wins(a, b api.Term) bool {
	if b.Fn == "" {
		return false
	}
	for _, arg := range b.Args {
		if !m.greater(a, arg) {
			return false
		}
	}
	if a.Fn != b.Fn || len(a.Args) != len(b.Args) {
		return m.above(a, b)
	}
	for i, arg := range a.Args {
		if text(arg) != text(b.Args[i]) {
			return m.greater(arg, b.Args[i])
		}
	}
	return false
}

// above: does a's symbol come above b's?
func (m model) above(a, b api.Term) bool {
	rank := func(name string) string {
		i := slices.Index(m.g.Names, name)
		switch {
		case name == "$true":
			return "0"
		case i < 0:
			return "1" + name
		}
		return fmt.Sprintf("2%03d", i)
	}
	if a.Fn == b.Fn {
		return len(a.Args) > len(b.Args)
	}
	return rank(a.Fn) > rank(b.Fn)
}

func (m model) compare(a, b api.Term) int {
	switch {
	case text(a) == text(b):
		return kbo.Equal
	case m.greater(a, b):
		return kbo.Greater
	case m.greater(b, a):
		return kbo.Less
	}
	return kbo.None
}

func plain(g kbo.Sign) model { return model{g: g, found: map[string]bool{}} }

// anyTerm: a right term of few names and at most vars variables, so that all outcomes come often.
func anyTerm(r *rand.Rand, depth, vars int) api.Term {
	if depth == 1 || r.Intn(4) == 0 {
		if vars > 0 && r.Intn(2) == 0 {
			return v(r.Intn(vars))
		}
		return f([]string{"a", "b", "f", "$true"}[r.Intn(4)])
	}
	t := f([]string{"f", "g", "a", "$true"}[r.Intn(4)])
	for range 1 + r.Intn(3) {
		t.Args = append(t.Args, anyTerm(r, depth-1, vars))
	}
	return t
}

// anyKin: a term that is like t but for a part, or for two arguments that have changed places.
func anyKin(r *rand.Rand, t api.Term, vars int) api.Term {
	if len(t.Args) == 0 || r.Intn(5) == 0 {
		return anyTerm(r, 1+r.Intn(2), vars)
	}
	args := slices.Clone(t.Args)
	if i, k := r.Intn(len(args)), r.Intn(len(args)); r.Intn(2) == 0 {
		args[i], args[k] = args[k], args[i]
		return f(t.Fn, args...)
	}
	i := r.Intn(len(args))
	args[i] = anyKin(r, args[i], vars)
	return f(t.Fn, args...)
}

// anySign: a right signature of some of those names, with weights, which must not count.
func anySign(r *rand.Rand) kbo.Sign {
	all := []string{"a", "b", "f", "g", "other"}
	r.Shuffle(len(all), func(i, k int) { all[i], all[k] = all[k], all[i] })
	g := sign(all[:r.Intn(len(all)+1)]...)
	for range r.Intn(len(g.Names) + 1) {
		g.Weights = append(g.Weights, 1+r.Intn(1000))
	}
	return g
}

// anyPair: two terms that have much of each other.
func anyPair(r *rand.Rand, depth, vars int) (a, b api.Term) {
	a = anyTerm(r, depth, vars)
	b = anyKin(r, a, vars)
	if r.Intn(2) == 0 {
		b = anyKin(r, b, vars)
	}
	return a, b
}

// P801: held against the words of the chapter, by chance; each outcome must come often.
func TestCompareByChance(t *testing.T) {
	r := rand.New(rand.NewSource(8))
	met := map[int]int{}
	for i := range 30000 {
		g := anySign(r)
		a, b := anyPair(r, 1+r.Intn(4), 3)
		if i%3 == 0 {
			b = anyTerm(r, 1+r.Intn(4), 3)
		}
		want := plain(g).compare(a, b)
		met[want]++
		wantOrder(t, g, a, b, want)
	}
	for _, order := range []int{kbo.Less, kbo.Equal, kbo.Greater, kbo.None} {
		if met[order] < 2000 {
			t.Errorf("%d came only %d times", order, met[order])
		}
	}
}

// P801: held against the words of the chapter, of greater terms, some of which have more variables than a machine's word has bits.
func TestCompareGreatByChance(t *testing.T) {
	r := rand.New(rand.NewSource(9))
	met, most := map[int]int{}, 0
	for i := range 36 {
		g, vars, leaves := anySign(r), []int{2, 3, 300}[i%3], []int{20, 60, 260}[i%3]
		a := tree("f", 2+r.Intn(8), leaves, func() api.Term { return anyTerm(r, 1+r.Intn(2), vars) })
		b := anyKin(r, anyKin(r, a, vars), vars)
		if r.Intn(2) == 0 {
			b = f("g", v(0), b)
		}
		a, b = numbered(a), numbered(b)
		most = max(most, len(term.Vars(a)))
		want := plain(g).compare(a, b)
		met[want]++
		wantOrder(t, g, a, b, want)
	}
	if met[kbo.Less] < 4 || met[kbo.Greater] < 4 || met[kbo.None] < 4 || most <= 2*wordBits {
		t.Errorf("too few: %v, at most %d variables", met, most)
	}
}

// numbered: the term with great numbers for its variables, as far from each other as they can be.
func numbered(t api.Term) api.Term {
	if t.Fn == "" {
		return v(api.MaxVar - 1 - t.Var*3333)
	}
	args := make([]api.Term, len(t.Args))
	for i, arg := range t.Args {
		args[i] = numbered(arg)
	}
	return f(t.Fn, args...)
}

// smallTerms: all terms of few names and two variables, up to that size.
func smallTerms(size int) []api.Term {
	ofSize := make([][]api.Term, size+1)
	ofSize[1] = []api.Term{v(0), v(1), f("a"), f("b"), f("$true")}
	for whole := 2; whole <= size; whole++ {
		for _, arg := range ofSize[whole-1] {
			ofSize[whole] = append(ofSize[whole], f("f", arg), f("g", arg))
		}
		for first := 1; first < whole-1; first++ {
			for _, l := range ofSize[first] {
				for _, r := range ofSize[whole-1-first] {
					ofSize[whole] = append(ofSize[whole], f("f", l, r))
				}
			}
		}
	}
	return slices.Concat(ofSize...)
}

// someSigns: right ones in which the names of smallTerms stand in several orders.
func someSigns() []kbo.Sign {
	return []kbo.Sign{{}, sign("g", "f", "b", "a"), sign("f", "a"), weighed(sign("b", "g", "f"), 2, 2), sign("g", "a", "b", "f")}
}

// P801, P802: all small terms, each held against each: as the words say; never both ways; without variables never None.
func TestLawsOfPairs(t *testing.T) {
	terms := smallTerms(4)
	for _, g := range someSigns() {
		m := plain(g)
		for i, a := range terms {
			for _, b := range terms[:i+1] {
				order := m.compare(a, b)
				wantOrder(t, g, a, b, order)
				if order == kbo.None && len(term.Vars(a)) == 0 && len(term.Vars(b)) == 0 {
					t.Errorf("%v: None of %s and %s", g, text(a), text(b))
				}
				if order == kbo.Greater && m.greater(b, a) {
					t.Errorf("%v: both ways of %s and %s", g, text(a), text(b))
				}
			}
		}
	}
}

// P802: Greater goes through a third term.
func TestLawOfThree(t *testing.T) {
	terms := smallTerms(4)
	r := rand.New(rand.NewSource(11))
	r.Shuffle(len(terms), func(i, k int) { terms[i], terms[k] = terms[k], terms[i] })
	terms = terms[:min(len(terms), 200)]
	for _, g := range someSigns() {
		greater := make([][]bool, len(terms))
		for i, a := range terms {
			for _, b := range terms {
				greater[i] = append(greater[i], Compare(g, a, b) == kbo.Greater)
			}
		}
		through := 0
		for i := range terms {
			for k := range terms {
				for l := range terms {
					if !greater[i][k] || !greater[k][l] {
						continue
					}
					through++
					if !greater[i][l] || greater[l][i] {
						t.Fatalf("%v: %s, %s, %s", g, text(terms[i]), text(terms[k]), text(terms[l]))
					}
				}
			}
		}
		if through < 10000 {
			t.Errorf("%v: only %d chains of three", g, through)
		}
	}
}

// P802: without variables two terms are never None, by chance of greater ones; the order of three is one, too.
func TestLawOfGround(t *testing.T) {
	r := rand.New(rand.NewSource(13))
	for range 3000 {
		g := anySign(r)
		list := []api.Term{anyTerm(r, 5, 0), anyTerm(r, 3, 0)}
		for range 6 {
			list = append(list, anyKin(r, list[r.Intn(len(list))], 0))
		}
		slices.SortFunc(list, func(a, b api.Term) int { return Compare(g, a, b) })
		for i, a := range list {
			for _, b := range list[i+1:] {
				if got := Compare(g, a, b); got != kbo.Less && (got != kbo.Equal || text(a) != text(b)) {
					t.Errorf("%v: %s and %s, sorted so: %d", g, text(a), text(b), got)
				}
			}
		}
	}
}

// P802: a term is greater than its parts.
func TestLawOfParts(t *testing.T) {
	r := rand.New(rand.NewSource(17))
	for range 3000 {
		g, whole := anySign(r), anyTerm(r, 5, 3)
		for _, place := range term.Places(whole)[1:] {
			part, _ := term.At(whole, place)
			wantOrder(t, g, whole, part, kbo.Greater)
		}
	}
}

// greaterPair: a signature, and two terms of which the first is greater.
func greaterPair(r *rand.Rand) (g kbo.Sign, a, b api.Term) {
	for {
		g = anySign(r)
		a, b = anyPair(r, 1+r.Intn(4), 3)
		switch Compare(g, a, b) {
		case kbo.Greater:
			return g, a, b
		case kbo.Less:
			return g, b, a
		}
	}
}

// P802: a term in which a part was made smaller is smaller.
func TestLawOfPlaces(t *testing.T) {
	r := rand.New(rand.NewSource(19))
	for range 15000 {
		g, a, b := greaterPair(r)
		around := anyTerm(r, 4, 3)
		all := term.Places(around)
		place := all[r.Intn(len(all))]
		great, _ := term.Put(around, place, a)
		small, _ := term.Put(around, place, b)
		wantOrder(t, g, great, small, kbo.Greater)
	}
}

// P802: what is greater is so behind any substitution.
func TestLawOfSubstitution(t *testing.T) {
	r := rand.New(rand.NewSource(23))
	for range 15000 {
		g, a, b := greaterPair(r)
		var s []api.Bind
		for number := range 3 {
			if to := anyTerm(r, 1+r.Intn(3), 3); r.Intn(4) > 0 && (to.Fn != "" || to.Var != number) {
				s = append(s, api.Bind{Var: number, T: to})
			}
		}
		great, errno := subst.Apply(s, a)
		small, errnoSmall := subst.Apply(s, b)
		if errno != api.OK || errnoSmall != api.OK {
			t.Fatalf("Apply(%v): %d, %d", s, errno, errnoSmall)
		}
		wantOrder(t, g, great, small, kbo.Greater)
	}
}

// What is handed in is not changed, its spare room neither, and nothing is kept from call to call.
func TestHandedIn(t *testing.T) {
	spare := func() (kbo.Sign, api.Term, api.Term) {
		names := append(make([]string, 0, 8), "c", "b", "a")
		weights := append(make([]int, 0, 8), 3, 2)
		args := append(make([]api.Term, 0, 8), v(0), f("b", v(1)))
		other := append(make([]api.Term, 0, 8), v(0), f("c", v(1)))
		return kbo.Sign{Names: names, Weights: weights}, f("f", args...), f("f", other...)
	}
	look := func(g kbo.Sign, terms ...api.Term) string {
		var b strings.Builder
		fmt.Fprintf(&b, "%q %v", g.Names[:cap(g.Names)], g.Weights[:cap(g.Weights)])
		for _, t := range terms {
			fmt.Fprintf(&b, " %v", t.Args[:cap(t.Args)])
		}
		return b.String()
	}
	g, a, b := spare()
	want := look(spare())
	for range 3 {
		wantOrder(t, g, a, b, kbo.Greater)
		wantOrder(t, sign("b", "b"), a, b, kbo.None)
		wantOrder(t, sign("a", "b", "c"), a, b, kbo.Less)
	}
	if got := look(g, a, b); got != want {
		t.Errorf("handed in: %s, then %s", want, got)
	}
}
