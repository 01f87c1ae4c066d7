package finger

import (
	"fmt"
	"math"
	"math/rand"
	"slices"
	"strings"
	"testing"

	"assize/api"
	"assize/subst"
	"assize/term"
	"assize/unify"
)

func v(number int) api.Term { return api.Term{Var: number} }

func f(name string, args ...api.Term) api.Term { return api.Term{Fn: name, Args: args} }

// fn: the feature of a function.
func fn(name string, args int) Feature { return Feature{Kind: 1, Args: args, Fn: name} }

// kind: a feature of which the kind is all.
func kind(k int) Feature { return Feature{Kind: k} }

// many: so many copies of a thing.
func many[T any](count int, t T) []T { return slices.Repeat([]T{t}, count) }

// chain: f(f(..(last))), so many parts within one another.
func chain(depth int, last api.Term) api.Term {
	t := last
	for range depth - 1 {
		t = f("f", t)
	}
	return t
}

// flat: of so many parts, no deeper than it must be, with leaf at each end.
func flat(size int, leaf api.Term) api.Term {
	if size == 1 {
		return leaf
	}
	count := min(api.MaxArgs, size-1)
	t := f("f")
	for i := range count {
		share := (size - 1) / count
		if i < (size-1)%count {
			share++
		}
		t.Args = append(t.Args, flat(share, leaf))
	}
	return t
}

// wrongTerms: terms that are not right, each in another way.
func wrongTerms() []api.Term {
	bad := []api.Term{
		v(-1), v(api.MaxVar), v(math.MinInt), v(math.MaxInt),
		{Args: many(1, f("a"))}, {Var: 1, Fn: "a"}, {Var: -1, Fn: "f", Args: many(1, v(0))},
		f(strings.Repeat("n", api.MaxName+1)), f("f", many(api.MaxArgs+1, v(0))...),
	}
	for _, t := range slices.Clone(bad) {
		bad = append(bad, f("g", t), f("g", f("a"), t), f("g", f("a"), f("a"), f("h", f("h", t))))
	}
	return append(bad, chain(api.MaxDepth+1, f("a")), chain(1<<16, v(1)), flat(api.MaxNodes+1, f("a")), f("f", many(1<<16, v(0))...))
}

// text: a term as a text that no other one has.
func text(t api.Term) string {
	if t.Fn == "" {
		return fmt.Sprintf("X%d", t.Var)
	}
	var args []string
	for _, arg := range t.Args {
		args = append(args, text(arg))
	}
	return fmt.Sprintf("%q(%s)", t.Fn, strings.Join(args, ","))
}

// told: features as a text.
func told(list []Feature) string {
	var b strings.Builder
	for _, feature := range list[:min(len(list), 9)] {
		fmt.Fprintf(&b, "{%d %d %.70q}", feature.Kind, feature.Args, feature.Fn)
	}
	return b.String()
}

// all: the terms of these leaves with f of two arguments and g of one on top, up to that depth.
func all(depth int, leaves ...api.Term) []api.Term {
	list := slices.Clone(leaves)
	if depth == 1 {
		return list
	}
	lower := all(depth-1, leaves...)
	for _, l := range lower {
		list = append(list, f("g", l))
		for _, r := range lower {
			list = append(list, f("f", l, r))
		}
	}
	return list
}

// someTerm: by chance, of few names that stand with different numbers of arguments, and of so many variables from first on.
func someTerm(r *rand.Rand, depth, first, variables int) api.Term {
	if depth == 1 || r.Intn(4) == 0 {
		if r.Intn(2) == 0 {
			return v(first + r.Intn(variables))
		}
		return f(string(rune('a' + r.Intn(2))))
	}
	t := f(string(rune('a' + r.Intn(2))))
	for range 1 + r.Intn(2) {
		t.Args = append(t.Args, someTerm(r, depth-1, first, variables))
	}
	return t
}

// modelOf: what the chapter's words say of a term that is right, by the parts that stand on the way to each place.
func modelOf(t api.Term) []Feature {
	var list []Feature
	for _, place := range [][]int{{}, {0}, {1}, {0, 0}} {
		part, errno := term.At(t, place)
		variableAbove := false
		for k := range place {
			above, gone := term.At(t, place[:k])
			variableAbove = variableAbove || gone == api.OK && above.Fn == ""
		}
		switch {
		case errno == api.OK && part.Fn != "":
			list = append(list, fn(part.Fn, len(part.Args)))
		case errno == api.OK:
			list = append(list, kind(2))
		case variableAbove:
			list = append(list, kind(3))
		default:
			list = append(list, kind(4))
		}
	}
	return list
}

// modelUnifies: the chapter's words, of one place.
func modelUnifies(a, b Feature) bool {
	if a.Kind < 1 || a.Kind > 4 || b.Kind < 1 || b.Kind > 4 {
		return false
	}
	return a.Kind == 1 && b.Kind == 1 && a.Fn == b.Fn && a.Args == b.Args ||
		a.Kind == 2 && b.Kind != 4 || b.Kind == 2 && a.Kind != 4 ||
		a.Kind == 3 || b.Kind == 3 ||
		a.Kind == 4 && b.Kind == 4
}

// modelMatches: the chapter's words, of one place.
func modelMatches(p, t Feature) bool {
	if t.Kind < 1 || t.Kind > 4 {
		return false
	}
	return p.Kind == 1 && t.Kind == 1 && p.Fn == t.Fn && p.Args == t.Args ||
		p.Kind == 2 && (t.Kind == 1 || t.Kind == 2) ||
		p.Kind == 3 ||
		p.Kind == 4 && t.Kind == 4
}

// everywhere: does it hold at each of the four places?
func everywhere(a, b []Feature, holds func(a, b Feature) bool) bool {
	for i := range 4 {
		if !holds(a[i], b[i]) {
			return false
		}
	}
	return true
}

// wantOf: Of answers these features, in memory of its own each time.
func wantOf(t *testing.T, in api.Term, want ...Feature) {
	t.Helper()
	got := Of(in)
	if !slices.Equal(got, want) {
		t.Errorf("Of(%.200s): %s, not %s", text(in), told(got), told(want))
	}
	clear(got[:cap(got)])
	if again := Of(in); !slices.Equal(again, want) {
		t.Errorf("Of(%.200s) once more: %s, not %s", text(in), told(again), told(want))
	}
}

// wantFits: what Unifies answers both ways round, and what Matches does one way and the other.
func wantFits(t *testing.T, a, b []Feature, unifies, matches, back bool) {
	t.Helper()
	if got, turned := Unifies(a, b), Unifies(b, a); got != unifies || turned != unifies {
		t.Errorf("Unifies of %s and %s: %v, %v, not %v", told(a), told(b), got, turned, unifies)
	}
	if got, turned := Matches(a, b), Matches(b, a); got != matches || turned != back {
		t.Errorf("Matches of %s and %s: %v, back %v, not %v, %v", told(a), told(b), got, turned, matches, back)
	}
}

// P1001: the chapter's examples, and what else may stand at each place.
func TestOf(t *testing.T) {
	a, x := f("a"), v(0)
	wantOf(t, f("f", a, x), fn("f", 2), fn("a", 0), kind(2), kind(4))
	wantOf(t, x, kind(2), kind(3), kind(3), kind(3))
	wantOf(t, v(api.MaxVar-1), kind(2), kind(3), kind(3), kind(3))
	wantOf(t, a, fn("a", 0), kind(4), kind(4), kind(4))
	wantOf(t, api.Term{Fn: "a", Args: []api.Term{}}, fn("a", 0), kind(4), kind(4), kind(4))
	wantOf(t, f("f", x), fn("f", 1), kind(2), kind(4), kind(3))
	wantOf(t, f("f", a), fn("f", 1), fn("a", 0), kind(4), kind(4))
	wantOf(t, f("f", f("g", x)), fn("f", 1), fn("g", 1), kind(4), kind(2))
	wantOf(t, f("f", f("g", a)), fn("f", 1), fn("g", 1), kind(4), fn("a", 0))
	wantOf(t, f("f", f("g", f("h", x, x, x), a)), fn("f", 1), fn("g", 2), kind(4), fn("h", 3))
	wantOf(t, f("f", x, a), fn("f", 2), kind(2), fn("a", 0), kind(3))
	wantOf(t, f("f", x, f("g", a, a)), fn("f", 2), kind(2), fn("g", 2), kind(3))
	wantOf(t, f("f", a, f("g", x)), fn("f", 2), fn("a", 0), fn("g", 1), kind(4))
	wantOf(t, f("f", f("g", a, x), f("g", x, a), f("h", x)), fn("f", 3), fn("g", 2), fn("g", 2), fn("a", 0))
	name := strings.Repeat("\xff", api.MaxName)
	wantOf(t, f(name, many(api.MaxArgs, f("$true"))...), fn(name, api.MaxArgs), fn("$true", 0), fn("$true", 0), kind(4))
	wantOf(t, chain(api.MaxDepth, x), fn("f", 1), fn("f", 1), kind(4), fn("f", 1))
	wantOf(t, flat(api.MaxNodes, x), fn("f", 16), fn("f", 16), fn("f", 16), fn("f", 15))
}

// P1001: terms that are not right have features, too, as far as the chapter's words tell them.
func TestOfWrong(t *testing.T) {
	name := strings.Repeat("n", 1000)
	wantOf(t, f(name, v(-1), v(math.MaxInt)), fn(name, 2), kind(2), kind(2), kind(3))
	wantOf(t, v(math.MinInt), kind(2), kind(3), kind(3), kind(3))
	wantOf(t, f("f", many(1<<16, f("g", v(-1)))...), fn("f", 1<<16), fn("g", 1), fn("g", 1), kind(2))
	wantOf(t, chain(1<<16, v(0)), fn("f", 1), fn("f", 1), kind(4), fn("f", 1))
	for _, bad := range wrongTerms() {
		if got := Of(bad); len(got) != 4 {
			t.Errorf("Of(%.200s): %s", text(bad), told(got))
		}
	}
}

// P1001: features by the model, of all small terms and by chance; Fn and Args stand with functions alone.
func TestOfModel(t *testing.T) {
	list := all(3, f("a"), v(0))
	r := rand.New(rand.NewSource(10))
	for range 5000 {
		list = append(list, someTerm(r, 5, 0, 3))
	}
	var met [4][5]int
	for _, in := range list {
		wantOf(t, in, modelOf(in)...)
		for i, feature := range Of(in) {
			met[i][feature.Kind]++
		}
	}
	for place, kinds := range met {
		for k := 1; k <= 4; k++ {
			if possible := place > 0 || k < 3; possible != (kinds[k] > 0) {
				t.Errorf("kind %d at place %d comes %d times", k, place, kinds[k])
			}
		}
	}
}

// P1001: each kind beside each, at each place by itself.
func TestFitKinds(t *testing.T) {
	a, b, a1 := fn("a", 0), fn("b", 0), fn("a", 1)
	x, deep, none := kind(2), kind(3), kind(4)
	for _, c := range []struct {
		a, b                   Feature
		unifies, matches, back bool
	}{
		{a, a, true, true, true}, {a1, a1, true, true, true}, {a, b, false, false, false}, {a, a1, false, false, false},
		{a, x, true, false, true}, {a, deep, true, false, true}, {a, none, false, false, false},
		{x, x, true, true, true}, {x, deep, true, false, true}, {x, none, false, false, false},
		{deep, deep, true, true, true}, {deep, none, true, true, false},
		{none, none, true, true, true},
	} {
		for place := range 4 {
			l, r := []Feature{a, x, deep, none}, []Feature{a, x, deep, none}
			l[place], r[place] = c.a, c.b
			wantFits(t, l, r, c.unifies, c.matches, c.back)
		}
	}
}

// someFeatures: of right kinds and wrong ones, with names and numbers also where they do not count.
func someFeatures() []Feature {
	var list []Feature
	for _, k := range []int{1, 2, 3, 4, 0, 5, -1, -3, math.MinInt, math.MaxInt, 1 << 32, 1<<32 + 1} {
		for _, name := range []string{"", "a", "b"} {
			for _, args := range []int{0, 1, -1, math.MaxInt} {
				list = append(list, Feature{Kind: k, Args: args, Fn: name})
			}
		}
	}
	return list
}

// P1001: each feature beside each, those of no kind too, at each place by itself, by the model.
func TestFitModel(t *testing.T) {
	list := someFeatures()
	fits := map[bool]int{}
	for i, a := range list {
		for k, b := range list {
			place := (i + k) % 4
			l, r := many(4, kind(3)), many(4, kind(3))
			l[place], r[place] = a, b
			wantFits(t, l, r, modelUnifies(a, b), modelMatches(a, b), modelMatches(b, a))
			fits[Unifies(l, r)]++
			fits[Matches(l, r)]++
		}
	}
	if fits[true] < 100 || fits[false] < 100 {
		t.Errorf("what fits comes too seldom: %v", fits)
	}
}

// P1001: fingerprints of features by chance: all four places count.
func TestFitModelWhole(t *testing.T) {
	r := rand.New(rand.NewSource(11))
	parts := []Feature{fn("a", 0), fn("a", 1), fn("b", 1), kind(2), kind(2), kind(3), kind(3), kind(4), kind(4), kind(0), kind(5)}
	fits := map[string]int{}
	for range 50000 {
		var l, s []Feature
		for range 4 {
			l, s = append(l, parts[r.Intn(len(parts)-r.Intn(3))]), append(s, parts[r.Intn(len(parts)-r.Intn(3))])
		}
		unifies, matches, back := everywhere(l, s, modelUnifies), everywhere(l, s, modelMatches), everywhere(s, l, modelMatches)
		wantFits(t, l, s, unifies, matches, back)
		fits[fmt.Sprint(unifies, matches)]++
	}
	for _, way := range []string{"true true", "true false", "false false"} {
		if fits[way] < 500 {
			t.Errorf("%s comes %d times", way, fits[way])
		}
	}
}

// P1001: lists that have not four features each.
func TestFitLengths(t *testing.T) {
	for _, feature := range []Feature{kind(4), kind(3), kind(2), fn("a", 0)} {
		for i := range 10 {
			for k := range 10 {
				fits := i == 4 && k == 4
				wantFits(t, many(i, feature), many(k, feature), fits, fits, fits)
			}
		}
		wantFits(t, nil, nil, false, false, false)
		wantFits(t, nil, many(4, feature), false, false, false)
		wantFits(t, many(4, feature), many(1<<20, feature), false, false, false)
		wantFits(t, many(9, feature)[:4], many(4, feature), true, true, true)
	}
}

// notMissed: Unifies and Matches of two terms without a variable in common hold wherever there is a unifier, a matcher.
func notMissed(t *testing.T, a, b api.Term, found map[string]int) {
	t.Helper()
	_, unifies, errno := unify.Unify(a, b)
	_, matches, matchErrno := unify.Match(a, b)
	if errno == api.ErrArg || matchErrno != api.OK {
		t.Fatalf("%s and %s: %d, %d", text(a), text(b), errno, matchErrno)
	}
	unifies = unifies || errno == api.ErrBig // there is one, too great to be told
	may, mayMatch := Unifies(Of(a), Of(b)), Matches(Of(a), Of(b))
	if unifies && (!may || !Unifies(Of(b), Of(a))) {
		t.Errorf("Unifies misses %.200s and %.200s", text(a), text(b))
	}
	if matches && !mayMatch {
		t.Errorf("Matches misses %.200s and %.200s", text(a), text(b))
	}
	found[fmt.Sprint("unify ", unifies, may)]++
	found[fmt.Sprint("errno ", errno)]++
	found[fmt.Sprint("match ", matches, mayMatch)]++
}

// wantFound: each of these came often enough for the test to tell something.
func wantFound(t *testing.T, found map[string]int, least int) {
	t.Helper()
	for _, way := range []string{"unify true true", "unify false true", "unify false false", "match true true", "match false true", "match false false"} {
		if found[way] < least {
			t.Errorf("%s comes %d times", way, found[way])
		}
	}
}

// P1003: of all small terms.
func TestNoneMissedSmall(t *testing.T) {
	found := map[string]int{}
	for _, a := range all(3, f("a"), v(0), v(1)) {
		for _, b := range all(3, f("a"), v(2)) {
			notMissed(t, a, b, found)
			notMissed(t, b, a, found)
		}
	}
	wantFound(t, found, 500)
}

// P1003: by chance; of instances of a term, which it matches, too.
func TestNoneMissed(t *testing.T) {
	r := rand.New(rand.NewSource(12))
	found := map[string]int{}
	for range 30000 {
		a, b := someTerm(r, 4, 0, 3), someTerm(r, 4, 3, 3)
		notMissed(t, a, b, found)
		binds := []api.Bind{{Var: 0, T: someTerm(r, 3, 3, 3)}, {Var: 1, T: someTerm(r, 3, 3, 3)}, {Var: 2, T: someTerm(r, 3, 3, 3)}}
		instance, errno := subst.Apply(binds, a)
		if errno != api.OK {
			t.Fatalf("Apply: %d", errno)
		}
		notMissed(t, a, instance, found)
		if !Unifies(Of(a), Of(instance)) || !Matches(Of(a), Of(instance)) {
			t.Errorf("%s and its instance %s", text(a), text(instance))
		}
	}
	wantFound(t, found, 100)
}

// P1003: of the greatest terms, and of a unifier that is too great to be told.
func TestNoneMissedGreat(t *testing.T) {
	found := map[string]int{}
	x, y := v(0), v(1)
	for _, great := range []api.Term{flat(api.MaxNodes, v(2)), chain(api.MaxDepth, v(2)), chain(api.MaxDepth, f("a"))} {
		for _, pattern := range []api.Term{x, f("f", x), f("f", many(16, x)...), f("f", f("f", x)), great} {
			notMissed(t, pattern, great, found)
		}
	}
	notMissed(t, f("f", x, x), f("f", chain(api.MaxDepth-1, v(2)), f("f", v(3))), found)
	notMissed(t, f("g", x, f("f", f("f", x))), f("g", chain(api.MaxDepth-1, v(2)), v(3)), found)
	notMissed(t, f("g", y, f("f", x, x)), f("g", v(2), v(2)), found)
	if found["unify true true"] < 8 || found["match true true"] < 8 || found[fmt.Sprint("errno ", api.ErrBig)] == 0 {
		t.Errorf("found: %v", found)
	}
}

// P1001: nothing that is handed in is changed, its spare room neither.
func TestHandedIn(t *testing.T) {
	spare := func() (api.Term, []Feature) {
		inner := f("g", append(make([]api.Term, 0, 8), v(1), f("a"))...)
		whole := f("f", append(make([]api.Term, 0, 8), inner, v(0))...)
		return whole, append(make([]Feature, 0, 8), fn("f", 2), kind(2), kind(3), kind(3))
	}
	look := func(in api.Term, list []Feature) string {
		return fmt.Sprint(in.Args[:cap(in.Args)], in.Args[0].Args[:cap(in.Args[0].Args)], list[:cap(list)])
	}
	in, list := spare()
	want := look(spare())
	i := New()
	for range 3 {
		got := Of(in)
		if !Unifies(got, list) || Matches(got, list) || !Matches(list, got) || i.Insert(1, in) != api.OK {
			t.Error("one of the calls answers another thing")
		}
		for _, list := range [][]int{i.Unifiable(in), i.Generals(in), i.Instances(in)} {
			if !slices.Equal(list, []int{1}) {
				t.Errorf("the term itself: %v", list)
			}
		}
		i.Remove(1)
	}
	if got := look(in, list); got != want {
		t.Errorf("handed in: %s, then %s", want, got)
	}
}
