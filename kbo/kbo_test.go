package kbo

import (
	"fmt"
	"math"
	"math/rand"
	"slices"
	"strings"
	"testing"

	"assize/api"
	"assize/subst"
	"assize/term"
)

func v(number int) api.Term { return api.Term{Var: number} }

func f(name string, args ...api.Term) api.Term { return api.Term{Fn: name, Args: args} }

// sign: names from the lowest to the highest, and no weights.
func sign(names ...string) Sign { return Sign{Names: names} }

// weighed: the signature with those weights.
func weighed(g Sign, weights ...int) Sign { return Sign{Names: g.Names, Weights: weights} }

// many: so many copies of a thing.
func many[T any](count int, t T) []T { return slices.Repeat([]T{t}, count) }

// names: so many, no two alike.
func names(count int) []string {
	var list []string
	for i := range count {
		list = append(list, fmt.Sprint("n", i))
	}
	return list
}

// chain: f(f(..(last))), so many parts within one another.
func chain(depth int, last api.Term) api.Term {
	t := last
	for range depth - 1 {
		t = f("f", t)
	}
	return t
}

// flat: of so many parts, no deeper than it must be, with leaf at each end but the last, where last stands.
func flat(size int, leaf, last api.Term) api.Term {
	if size == 1 {
		return last
	}
	count := min(api.MaxArgs, size-1)
	t := f("f")
	for i := range count {
		share := (size - 1) / count
		if i < (size-1)%count {
			share++
		}
		end := leaf
		if i == count-1 {
			end = last
		}
		t.Args = append(t.Args, flat(share, leaf, end))
	}
	return t
}

// wrongTerms: terms that are not right, each in another way.
func wrongTerms() []api.Term {
	bad := []api.Term{
		v(-1), v(api.MaxVar), v(math.MinInt), v(math.MaxInt),
		{Args: many(1, f("a"))}, {Var: 3, Args: many(2, v(1))}, {Var: 1, Fn: "a"}, {Var: -1, Fn: "f", Args: many(1, v(0))},
		f(strings.Repeat("n", api.MaxName+1)), f("f", many(api.MaxArgs+1, v(0))...),
	}
	for _, t := range slices.Clone(bad) {
		bad = append(bad, f("g", f("a"), f("h", t)))
	}
	return append(bad, chain(api.MaxDepth+1, f("a")), chain(1<<16, v(1)), flat(api.MaxNodes+1, f("a"), f("a")))
}

// wrongSigns: signatures that are not right, each in another way.
func wrongSigns() []Sign {
	long := strings.Repeat("n", api.MaxName+1)
	return []Sign{
		sign(names(201)...), sign(names(100000)...), sign(""), sign("a", ""), sign(long), sign("a", "b", long), sign("$true"), sign("a", "$true", "b"),
		sign("a", "a"), sign("a", "b", "a"), sign("b", "c", "d", "d"), sign(append(names(199), "n0")...),
		{Weights: []int{1}}, weighed(sign("a"), 1, 1), weighed(sign(names(200)...), many(201, 1)...),
		weighed(sign("a"), 0), weighed(sign("a"), -1), weighed(sign("a"), 1001), weighed(sign("a"), math.MinInt), weighed(sign("a"), math.MaxInt),
		weighed(sign("a", "b", "c"), 1, 1000, 0), weighed(sign("a", "b"), 1001, 1),
	}
}

// text: a term as a text that no other one has.
func text(t api.Term) string {
	if t.Fn == "" {
		return fmt.Sprintf("X%d", t.Var)
	}
	var args []string
	for _, arg := range t.Args {
		args = append(args, text(arg))
	}
	return fmt.Sprintf("%q(%s)", t.Fn, strings.Join(args, ","))
}

// P701: each bound of a signature, from both sides.
func TestRight(t *testing.T) {
	long := strings.Repeat("n", api.MaxName)
	for _, good := range []Sign{
		{}, {Names: []string{}, Weights: []int{}}, sign("a"), sign("a", "A", "aa", "a ", "\x00", "\xff"), sign("true", "$false", "$true ", "$tru", "@p"),
		sign(long), sign(long, long[1:]), sign(names(200)...), sign(append(names(199), long)...),
		weighed(sign("a"), 1), weighed(sign("a"), 1000), weighed(sign("a", "b", "c"), 1000, 1), weighed(sign("a", "b", "c"), 5, 5, 5),
		weighed(sign(names(200)...), many(200, 1000)...),
	} {
		if got := Right(good); got != api.OK {
			t.Errorf("Right(%.200v): %d", good, got)
		}
	}
	for _, bad := range wrongSigns() {
		if got := Right(bad); got != api.ErrArg {
			t.Errorf("Right(%.200v): %d, not %d", bad, got, api.ErrArg)
		}
	}
}

// wantRising: of each two names the one behind is above the one ahead of it, and no other way round.
func wantRising(t *testing.T, g Sign, rising ...string) {
	t.Helper()
	for i, low := range rising {
		for k, high := range rising {
			if got := Above(g, high, low); got != (k > i) {
				t.Errorf("Above(%.100v, %q, %q): %v", g.Names, high, low, got)
			}
		}
	}
}

// P701: names that stand there, names that don't, and $true.
func TestAbove(t *testing.T) {
	wantRising(t, Sign{}, "$true", "", "\x00", "$tru", "$true ", "$truf", "A", "Z", "a", "aa", "ab", "b", "\x7f", "\x80", "\xc3\xa4", "\xff", "\xff\xff")
	wantRising(t, sign("b", "a"), "$true", "", "$a", "aa", "bb", "c", "zz", "\xff", "b", "a")
	wantRising(t, sign("zz", "\x00", "m", "$tru", "@p"), "$true", "$", "$truf", "a", "mm", "zzz", "zz", "\x00", "m", "$tru", "@p")
	wantRising(t, weighed(sign("a", "b"), 1000, 1), "$true", "c", "a", "b")
	all := names(200)
	slices.Reverse(all)
	wantRising(t, sign(all...), append([]string{"$true", "a", "n200", "z"}, all...)...)
}

// P701: Above of signatures that are not right: the first place of a name counts, and $true is below all others wherever it stands.
func TestAboveOfWrong(t *testing.T) {
	wantRising(t, sign("a", "b", "a"), "$true", "c", "a", "b")
	wantRising(t, sign("c", "b", "b", "a", "c"), "$true", "d", "c", "b", "a")
	wantRising(t, sign("a", "$true", "b"), "$true", "", "0", "c", "a", "b")
	wantRising(t, sign("b", "a", "$true"), "$true", "c", "b", "a")
	wantRising(t, sign("b", "", "a"), "$true", "A", "c", "b", "", "a")
	long := strings.Repeat("n", api.MaxName+1)
	wantRising(t, sign(long, "a"), "$true", "b", long+"n", long, "a")
	wantRising(t, sign(names(1000)...), append([]string{"$true", "a"}, names(1000)[190:260]...)...)
	wantRising(t, Sign{Weights: []int{5, 0}}, "$true", "a", "b")
}

// P701: what each part weighs, of signatures that are not right too.
func TestWeight(t *testing.T) {
	whole := f("f", f("a"), f("g", v(0), v(7)), f("a", f("b"), v(0)), f("$true"))
	g := sign("a", "f", "b", "g")
	cases := []struct {
		g    Sign
		in   api.Term
		want int
	}{
		{Sign{}, v(0), 1}, {Sign{}, v(api.MaxVar - 1), 1}, {Sign{}, f("a"), 1}, {Sign{}, f("$true"), 1}, {Sign{}, whole, 9},
		{g, whole, 9}, {weighed(g, 10), whole, 27}, {weighed(g, 10, 100), whole, 126}, {weighed(g, 10, 100, 1000), whole, 1125},
		{weighed(g, 1, 1, 1, 1000), whole, 1008}, {weighed(g, 3, 3, 3, 3), v(0), 1}, {weighed(g, 3, 3, 3, 3), f("c", v(2)), 2},
		{weighed(g, 0, -5, 1001, math.MaxInt), whole, 9}, {weighed(g, math.MinInt, 1000, 0, 2), whole, 1009},
		{weighed(sign("a", "b", "a"), 5, 1, 70), f("a"), 5}, {weighed(sign("a", "b", "a"), 0, 1, 70), f("a"), 1},
		{weighed(sign("b", "a", "a"), 5, 6), f("a"), 6}, {weighed(sign("b", "a", "a"), 5), f("a"), 1},
		{Sign{Weights: []int{5, 6}}, f("a"), 1}, {weighed(sign("a"), 5, 6, 7), f("g", f("a")), 6},
		{weighed(sign("$true"), 5), f("$true"), 5}, {weighed(sign(""), 5), v(0), 1},
		{weighed(sign(names(300)...), many(300, 4)...), f("n299", f("n0"), f("n200"), f("n300")), 13},
		{weighed(sign(strings.Repeat("n", api.MaxName)), 9), f(strings.Repeat("n", api.MaxName)), 9},
		{weighed(sign("f"), 1000), chain(api.MaxDepth, v(0)), 59001}, {weighed(sign("f", "a"), 1000, 1000), flat(api.MaxNodes, f("a"), f("a")), 4000000},
	}
	for _, c := range cases {
		if got := Weight(c.g, c.in); got != c.want {
			t.Errorf("Weight(%.200v, %.200s): %d, not %d", c.g, text(c.in), got, c.want)
		}
	}
	for _, bad := range wrongTerms() {
		for _, g := range []Sign{{}, weighed(g, 2, 3), sign("a", "a")} {
			if got := Weight(g, bad); got != 0 {
				t.Errorf("Weight(%v, %.200s): %d", g, text(bad), got)
			}
		}
	}
}

// wantOrder: Compare answers so, and the other way round what it must then.
func wantOrder(t *testing.T, g Sign, a, b api.Term, want int) {
	t.Helper()
	if got := Compare(g, a, b); got != want {
		t.Errorf("Compare(%.200v, %.200s, %.200s): %d, not %d", g, text(a), text(b), got, want)
	}
	if got := Compare(g, b, a); got != turned(want) {
		t.Errorf("Compare(%.200v, %.200s, %.200s): %d, not %d", g, text(b), text(a), got, turned(want))
	}
}

// turned: what comes of a comparison the other way round.
func turned(order int) int {
	if order == None {
		return None
	}
	return -order
}

// P702: the numbers that a comparison is told by.
func TestOutcomes(t *testing.T) {
	if Less != -1 || Equal != 0 || Greater != 1 || None != 2 {
		t.Error(Less, Equal, Greater, None)
	}
}

// P702: the order without names and weights.
func TestCompare(t *testing.T) {
	a, b, c, x, y, g := f("a"), f("b"), f("c"), v(0), v(1), Sign{}
	for _, same := range []api.Term{a, x, v(api.MaxVar - 1), f("f", x, f("g", y, x)), {Fn: "a", Args: []api.Term{}}} {
		wantOrder(t, g, same, same, Equal)
	}
	wantOrder(t, g, a, api.Term{Fn: "a", Args: []api.Term{}}, Equal)
	wantOrder(t, g, x, y, None)
	wantOrder(t, g, a, x, None)
	wantOrder(t, g, a, b, Less)
	wantOrder(t, g, f("$true"), a, Less)
	wantOrder(t, g, f("$true"), f("\x00"), Less)
	wantOrder(t, g, f("$true"), x, None)
	wantOrder(t, g, f("f", x), x, Greater)
	wantOrder(t, g, f("f", x), y, None)
	wantOrder(t, g, f("f", a), x, None)
	wantOrder(t, g, f("f", b), f("f", a), Greater)
	wantOrder(t, g, f("f", x), f("f", y), None)
	wantOrder(t, g, f("f", x), f("f", a), None)
	wantOrder(t, g, f("f", x), f("e", x), Greater)
	wantOrder(t, g, f("f", x), f("e", y), None)
	wantOrder(t, g, f("f", x), f("e", a), Greater)
	wantOrder(t, g, f("e", x), f("f", a), None)
	wantOrder(t, g, f("a", f("a", f("a", x))), f("z", f("z", x)), Greater)
	wantOrder(t, g, f("f", x, x), f("g", x), Greater)
	wantOrder(t, g, f("f", x, y), f("g", f("g", f("g", y))), None)
	wantOrder(t, g, f("g", f("g", f("g", y))), f("f", x, y), None)
	wantOrder(t, g, f("f", x, y), f("f", y, x), None)
	wantOrder(t, g, f("f", a, b), f("f", b, a), Less)
	wantOrder(t, g, f("f", a, x, c), f("f", a, x, b), Greater)
	wantOrder(t, g, f("f", f("h", b), a), f("f", a, f("h", b)), Greater)
}

// P702: the weights count ahead of the arguments, the first arguments that differ ahead of later ones, and variables in all of them.
func TestCompareArguments(t *testing.T) {
	a, b, x, y, g := f("a"), f("b"), v(0), v(1), Sign{}
	wantOrder(t, g, f("f", a, f("h", a)), f("f", b, a), Greater)
	wantOrder(t, g, f("f", f("h", x), y), f("f", x, f("h", y)), Greater)
	wantOrder(t, g, f("f", f("h", x), x), f("f", x, f("h", y)), None)
	wantOrder(t, g, f("f", x, f("h", x)), f("f", f("h", x), y), None)
	wantOrder(t, g, f("f", b, x), f("f", a, x), Greater)
	wantOrder(t, g, f("f", b, a), f("f", a, x), None)
	wantOrder(t, g, f("f", b, x), f("f", a, a), Greater)
	wantOrder(t, g, f("f", x, y, a), f("f", y, x, b), None)
	wantOrder(t, g, f("f", x, b), f("f", a, a), None)
	wantOrder(t, g, f("f", x, f("h", a)), f("f", x, f("g", b)), Greater)
	wantOrder(t, g, f("f", f("f", x, b), x), f("f", f("f", x, a), y), None)
	wantOrder(t, g, f("f", f("f", x, b), y), f("f", f("f", x, a), y), Greater)
	wantOrder(t, g, f("f", f("g", x, y), a), f("f", f("g", y, x), b), None)
	wantOrder(t, g, f("f", f("g", x, b), f("g", x, a)), f("f", f("g", x, a), f("g", x, b)), Greater)
	// a variable that the first arguments lack is made up for by later ones in the whole, but not in themselves
	wantOrder(t, g, f("f", f("h", a), x), f("f", f("g", x), a), None)
	wantOrder(t, g, f("f", f("h", f("h", a)), x), f("f", f("h", x), f("h", a)), None)
}

// P702: names and weights of the signature; a name with more arguments.
func TestCompareSign(t *testing.T) {
	a, b, c, x := f("a"), f("b"), f("c"), v(0)
	g := weighed(sign("b", "a"), 3)
	wantOrder(t, g, a, b, Less)
	wantOrder(t, g, f("a", a, a), b, Greater)
	wantOrder(t, g, f("f", f("f", a)), b, Less)
	wantOrder(t, g, c, a, Less)
	wantOrder(t, g, b, x, None)
	wantOrder(t, g, f("b", x), x, Greater)
	wantOrder(t, sign("b", "a"), a, b, Greater)
	wantOrder(t, sign("b", "a"), b, f("zz"), Greater)
	wantOrder(t, sign("b", "a"), f("zz"), f("y"), Greater)
	wantOrder(t, sign("b", "a"), f("$true"), f("y"), Less)
	wantOrder(t, sign("b", "f"), f("f", b, b), f("f", f("f", b)), Greater)
	wantOrder(t, sign("f", "b"), f("f", x, x), f("f", f("f", x)), Greater)
	wantOrder(t, sign("f", "g"), f("f", x, x), f("g", f("f", x)), None)
	wantOrder(t, sign("f", "g"), f("f", b, b), f("g", f("f", b)), Less)
	wantOrder(t, sign("f", "g"), f("f", x, b), f("g", f("f", x)), Less)
	wantOrder(t, Sign{}, f("$true", a), f("a", a), Less)
	wantOrder(t, Sign{}, f("$true", f("$true")), f("$true"), Greater)
	wantOrder(t, Sign{}, f("$true", a, a), f("$true", f("a", a)), Greater)
	all := weighed(sign(names(200)...), append(many(199, 1), 1000)...)
	wantOrder(t, all, f("n199"), chain(999, f("n0")), None) // too deep
	wantOrder(t, all, f("n199"), flat(1000, f("n0"), f("n0")), Greater)
	wantOrder(t, all, f("n199"), flat(1001, f("n0"), f("n0")), Less)
	wantOrder(t, all, f("n198"), f("n197"), Greater)
	wantOrder(t, all, f("n0"), f("z"), Greater)
}

// P702: a signature or a term that is not right, beside whatever it is.
func TestCompareWrong(t *testing.T) {
	goods := []api.Term{f("a"), v(0), f("f", v(1), f("b"))}
	for _, bad := range wrongTerms() {
		wantOrder(t, Sign{}, bad, bad, None)
		for _, good := range goods {
			wantOrder(t, Sign{}, good, bad, None)
		}
	}
	for _, bad := range wrongSigns() {
		for _, a := range goods {
			for _, b := range goods {
				wantOrder(t, bad, a, b, None)
			}
		}
	}
}

// P702: the deepest and the greatest terms, which differ at their ends.
func TestCompareLimits(t *testing.T) {
	deep := func(last api.Term) api.Term { return chain(api.MaxDepth, last) }
	great := func(leaf, last api.Term) api.Term { return flat(api.MaxNodes, leaf, last) }
	x, y, a, b := v(0), v(api.MaxVar-1), f("a"), f("b")
	for _, build := range []func(api.Term) api.Term{deep, func(last api.Term) api.Term { return great(y, last) }} {
		wantOrder(t, Sign{}, build(b), build(b), Equal)
		wantOrder(t, Sign{}, build(b), build(a), Greater)
		wantOrder(t, sign("b", "a"), build(b), build(a), Less)
		wantOrder(t, Sign{}, build(x), build(a), None)
		wantOrder(t, weighed(sign("a"), 2), build(x), build(a), None)
		wantOrder(t, weighed(sign("a"), 1000), build(b), build(a), Less)
	}
	wantOrder(t, Sign{}, deep(x), chain(api.MaxDepth-1, x), Greater)
	wantOrder(t, Sign{}, deep(x), deep(y), None)
	wantOrder(t, Sign{}, great(y, x), great(y, y), None)
	wantOrder(t, Sign{}, great(a, a), deep(x), None)
	wantOrder(t, weighed(sign("f", "a", "b"), 1000, 1000, 1000), great(a, b), great(a, a), Greater)
}

// plainSame: do both have the same name and as many arguments, all through?
func plainSame(a, b api.Term) bool { return text(a) == text(b) }

// plainCount: how often the variable stands in the term.
func plainCount(t api.Term, number int) int {
	if t.Fn == "" && t.Var == number {
		return 1
	}
	count := 0
	for _, arg := range t.Args {
		count += plainCount(arg, number)
	}
	return count
}

// plainWeight: as the words tell it.
func plainWeight(g Sign, t api.Term) int {
	weight := 1
	if i := slices.Index(g.Names, t.Fn); t.Fn != "" && i >= 0 && i < len(g.Weights) {
		weight = g.Weights[i]
	}
	for _, arg := range t.Args {
		weight += plainWeight(g, arg)
	}
	return weight
}

// plainAbove: does a's symbol come above b's?
func plainAbove(g Sign, a, b api.Term) bool {
	rank := func(name string) string {
		i := slices.Index(g.Names, name)
		switch {
		case name == "$true":
			return "0"
		case i < 0:
			return "1" + name
		}
		return fmt.Sprintf("2%03d", i)
	}
	if a.Fn == b.Fn {
		return len(a.Args) > len(b.Args)
	}
	return rank(a.Fn) > rank(b.Fn)
}

// plainGreater: is a greater than b? Word by word as the chapter says.
func plainGreater(g Sign, a, b api.Term) bool {
	for _, number := range term.Vars(b) {
		if plainCount(a, number) < plainCount(b, number) {
			return false
		}
	}
	if weightA, weightB := plainWeight(g, a), plainWeight(g, b); weightA != weightB {
		return weightA > weightB
	}
	if a.Fn == "" || b.Fn == "" {
		return false
	}
	if a.Fn != b.Fn || len(a.Args) != len(b.Args) {
		return plainAbove(g, a, b)
	}
	for i, arg := range a.Args {
		if !plainSame(arg, b.Args[i]) {
			return plainGreater(g, arg, b.Args[i])
		}
	}
	return false
}

func plainCompare(g Sign, a, b api.Term) int {
	switch {
	case plainSame(a, b):
		return Equal
	case plainGreater(g, a, b):
		return Greater
	case plainGreater(g, b, a):
		return Less
	}
	return None
}

// anyTerm: a right term of few names and at most vars variables, so that ties come often.
func anyTerm(r *rand.Rand, depth, vars int) api.Term {
	if depth == 1 || r.Intn(4) == 0 {
		if vars > 0 && r.Intn(2) == 0 {
			return v(r.Intn(vars))
		}
		return f([]string{"a", "b", "f", "$true"}[r.Intn(4)])
	}
	t := f([]string{"f", "g", "a", "$true"}[r.Intn(4)])
	for range 1 + r.Intn(3) {
		t.Args = append(t.Args, anyTerm(r, depth-1, vars))
	}
	return t
}

// anyKin: a term that is like t but for a part, or for two arguments that have changed places.
func anyKin(r *rand.Rand, t api.Term, vars int) api.Term {
	if len(t.Args) == 0 || r.Intn(5) == 0 {
		return anyTerm(r, 1+r.Intn(2), vars)
	}
	args := slices.Clone(t.Args)
	if i, k := r.Intn(len(args)), r.Intn(len(args)); r.Intn(2) == 0 {
		args[i], args[k] = args[k], args[i]
		return f(t.Fn, args...)
	}
	i := r.Intn(len(args))
	args[i] = anyKin(r, args[i], vars)
	return f(t.Fn, args...)
}

// anySign: a right signature of some of those names, with few weights.
func anySign(r *rand.Rand) Sign {
	all := []string{"a", "b", "f", "g", "other"}
	r.Shuffle(len(all), func(i, k int) { all[i], all[k] = all[k], all[i] })
	g := sign(all[:r.Intn(len(all)+1)]...)
	for range r.Intn(len(g.Names) + 1) {
		g.Weights = append(g.Weights, 1+r.Intn(3))
	}
	return g
}

// anyPair: two terms that are often of one weight, and begin alike.
func anyPair(r *rand.Rand, vars int) (a, b api.Term) {
	a = anyTerm(r, 1+r.Intn(4), vars)
	b = anyKin(r, a, vars)
	if r.Intn(2) == 0 {
		b = anyKin(r, b, vars)
	}
	return a, b
}

// P701, P702: Weight and Compare held against the words of the chapter, by chance; each outcome must come often.
func TestCompareByChance(t *testing.T) {
	r := rand.New(rand.NewSource(7))
	met := map[int]int{}
	for range 60000 {
		g := anySign(r)
		a, b := anyPair(r, 3)
		want := plainCompare(g, a, b)
		met[want]++
		wantOrder(t, g, a, b, want)
		if got, want := Weight(g, a), plainWeight(g, a); got != want {
			t.Errorf("Weight(%v, %s): %d, not %d", g, text(a), got, want)
		}
	}
	for _, order := range []int{Less, Equal, Greater, None} {
		if met[order] < 3000 {
			t.Errorf("%d came only %d times", order, met[order])
		}
	}
}

// smallTerms: all terms of few names and two variables, up to that size.
func smallTerms(size int) []api.Term {
	ofSize := make([][]api.Term, size+1)
	ofSize[1] = []api.Term{v(0), v(1), f("a"), f("b"), f("$true")}
	for whole := 2; whole <= size; whole++ {
		for _, arg := range ofSize[whole-1] {
			ofSize[whole] = append(ofSize[whole], f("f", arg), f("g", arg))
		}
		for first := 1; first < whole-1; first++ {
			for _, l := range ofSize[first] {
				for _, r := range ofSize[whole-1-first] {
					ofSize[whole] = append(ofSize[whole], f("f", l, r))
				}
			}
		}
	}
	return slices.Concat(ofSize...)
}

// someSigns: right ones in which the names of smallTerms stand in several orders, with several weights.
func someSigns() []Sign {
	return []Sign{{}, sign("g", "f", "b", "a"), weighed(sign("f", "a"), 1, 2), weighed(sign("b", "g", "f"), 2, 2), weighed(sign("g", "a", "b", "f"), 3, 1, 2)}
}

// P702, P703: all small terms, each held against each: as the words say; never both ways; without variables never None.
func TestLawsOfPairs(t *testing.T) {
	terms := smallTerms(4)
	for _, g := range someSigns() {
		for i, a := range terms {
			for _, b := range terms[:i+1] {
				order := plainCompare(g, a, b)
				wantOrder(t, g, a, b, order)
				if order == None && len(term.Vars(a)) == 0 && len(term.Vars(b)) == 0 {
					t.Errorf("%v: None of %s and %s", g, text(a), text(b))
				}
				if order == Equal && !plainSame(a, b) {
					t.Errorf("%v: Equal of %s and %s", g, text(a), text(b))
				}
			}
		}
	}
}

// P703: Greater goes through a third term.
func TestLawOfThree(t *testing.T) {
	terms := smallTerms(4)
	r := rand.New(rand.NewSource(11))
	r.Shuffle(len(terms), func(i, k int) { terms[i], terms[k] = terms[k], terms[i] })
	terms = terms[:min(len(terms), 250)]
	for _, g := range someSigns() {
		greater := make([][]bool, len(terms))
		for i, a := range terms {
			for _, b := range terms {
				greater[i] = append(greater[i], Compare(g, a, b) == Greater)
			}
		}
		through := 0
		for i := range terms {
			for k := range terms {
				for l := range terms {
					if !greater[i][k] || !greater[k][l] {
						continue
					}
					through++
					if !greater[i][l] || greater[l][i] {
						t.Fatalf("%v: %s, %s, %s", g, text(terms[i]), text(terms[k]), text(terms[l]))
					}
				}
			}
		}
		if through < 10000 {
			t.Errorf("%v: only %d chains of three", g, through)
		}
	}
}

// P703: without variables two terms are never None, by chance of greater ones; the order of three is one, too.
func TestLawOfGround(t *testing.T) {
	r := rand.New(rand.NewSource(13))
	for range 5000 {
		g := anySign(r)
		list := []api.Term{anyTerm(r, 5, 0), anyTerm(r, 3, 0)}
		for range 6 {
			list = append(list, anyKin(r, list[r.Intn(len(list))], 0))
		}
		slices.SortFunc(list, func(a, b api.Term) int { return Compare(g, a, b) })
		for i, a := range list {
			for _, b := range list[i+1:] {
				if got := Compare(g, a, b); got != Less && (got != Equal || !plainSame(a, b)) {
					t.Errorf("%v: %s and %s, sorted so: %d", g, text(a), text(b), got)
				}
			}
		}
	}
}

// P703: a term is greater than its parts.
func TestLawOfParts(t *testing.T) {
	r := rand.New(rand.NewSource(17))
	for range 5000 {
		g, whole := anySign(r), anyTerm(r, 5, 3)
		for _, place := range term.Places(whole)[1:] {
			part, _ := term.At(whole, place)
			wantOrder(t, g, whole, part, Greater)
		}
	}
}

// greaterPair: a signature, and two terms of which the first is greater.
func greaterPair(r *rand.Rand) (g Sign, a, b api.Term) {
	for {
		g = anySign(r)
		a, b = anyPair(r, 3)
		switch Compare(g, a, b) {
		case Greater:
			return g, a, b
		case Less:
			return g, b, a
		}
	}
}

// P703: a term in which a part was made smaller is smaller.
func TestLawOfPlaces(t *testing.T) {
	r := rand.New(rand.NewSource(19))
	for range 20000 {
		g, a, b := greaterPair(r)
		around := anyTerm(r, 4, 3)
		all := term.Places(around)
		place := all[r.Intn(len(all))]
		great, _ := term.Put(around, place, a)
		small, _ := term.Put(around, place, b)
		wantOrder(t, g, great, small, Greater)
	}
}

// P703: what is greater is so behind any substitution.
func TestLawOfSubstitution(t *testing.T) {
	r := rand.New(rand.NewSource(23))
	for range 20000 {
		g, a, b := greaterPair(r)
		var s []api.Bind
		for number := range 3 {
			if to := anyTerm(r, 1+r.Intn(3), 3); r.Intn(4) > 0 && (to.Fn != "" || to.Var != number) {
				s = append(s, api.Bind{Var: number, T: to})
			}
		}
		great, errno := subst.Apply(s, a)
		small, errnoSmall := subst.Apply(s, b)
		if errno != api.OK || errnoSmall != api.OK {
			t.Fatalf("Apply(%v): %d, %d", s, errno, errnoSmall)
		}
		wantOrder(t, g, great, small, Greater)
	}
}

// What is handed in is not changed, its spare room neither, and nothing is kept from call to call.
func TestHandedIn(t *testing.T) {
	spare := func() (Sign, api.Term, api.Term) {
		names := append(make([]string, 0, 8), "c", "b", "a")
		weights := append(make([]int, 0, 8), 3, 2)
		args := append(make([]api.Term, 0, 8), v(0), f("b", v(1)))
		other := append(make([]api.Term, 0, 8), v(0), f("c", v(1)))
		return Sign{Names: names, Weights: weights}, f("f", args...), f("f", other...)
	}
	look := func(g Sign, terms ...api.Term) string {
		var b strings.Builder
		fmt.Fprintf(&b, "%q %v", g.Names[:cap(g.Names)], g.Weights[:cap(g.Weights)])
		for _, t := range terms {
			fmt.Fprintf(&b, " %v", t.Args[:cap(t.Args)])
		}
		return b.String()
	}
	g, a, b := spare()
	want := look(spare())
	for range 3 {
		if Right(g) != api.OK || !Above(g, "a", "c") || Weight(g, a) != 5 || Compare(g, a, b) != Less {
			t.Error("one of the calls answers another thing")
		}
		Compare(sign("b", "b"), a, b)
		Compare(sign("a", "b", "c"), b, a)
	}
	if got := look(g, a, b); got != want {
		t.Errorf("handed in: %s, then %s", want, got)
	}
}
