package disc

import (
	"fmt"
	"maps"
	"math"
	"math/rand"
	"slices"
	"strings"
	"testing"

	"assize/api"
)

func v(number int) api.Term { return api.Term{Var: number} }

func f(name string, args ...api.Term) api.Term { return api.Term{Fn: name, Args: args} }

// many: so many copies of a thing.
func many[T any](count int, t T) []T { return slices.Repeat([]T{t}, count) }

// chain: f(f(..(last))), so many parts within one another.
func chain(depth int, last api.Term) api.Term {
	t := last
	for range depth - 1 {
		t = f("f", t)
	}
	return t
}

// flat: of so many parts, no deeper than it must be, with leaf at each end.
func flat(size int, leaf api.Term) api.Term {
	if size == 1 {
		return leaf
	}
	count := min(api.MaxArgs, size-1)
	t := f("f")
	for i := range count {
		share := (size - 1) / count
		if i < (size-1)%count {
			share++
		}
		t.Args = append(t.Args, flat(share, leaf))
	}
	return t
}

// apart: the term with a new variable in place of each, from that number on.
func apart(in api.Term, next *int) api.Term {
	if in.Fn == "" {
		*next++
		return v(*next - 1)
	}
	out := f(in.Fn)
	for _, arg := range in.Args {
		out.Args = append(out.Args, apart(arg, next))
	}
	return out
}

// wrongTerms: terms that are not right, each in another way.
func wrongTerms() []api.Term {
	bad := []api.Term{
		v(-1), v(api.MaxVar), v(math.MinInt), v(math.MaxInt),
		{Args: many(1, f("a"))}, {Var: 1, Fn: "a"}, {Var: -1, Fn: "f", Args: many(1, v(0))},
		f(strings.Repeat("n", api.MaxName+1)), f("f", many(api.MaxArgs+1, v(0))...),
	}
	for _, t := range slices.Clone(bad) {
		bad = append(bad, f("g", t), f("g", f("a"), t), f("g", f("a"), f("a"), f("h", f("h", t))))
	}
	return append(bad, chain(api.MaxDepth+1, f("a")), chain(1<<16, v(1)), flat(api.MaxNodes+1, f("a")), f("f", many(1<<16, v(0))...))
}

// text: a term as a text that no other one has.
func text(t api.Term) string {
	if t.Fn == "" {
		return fmt.Sprintf("X%d", t.Var)
	}
	var args []string
	for _, arg := range t.Args {
		args = append(args, text(arg))
	}
	return fmt.Sprintf("%q(%s)", t.Fn, strings.Join(args, ","))
}

// hitText: a hit as a text, its binds as they stand.
func hitText(id int, binds []api.Bind) string {
	var b strings.Builder
	fmt.Fprintf(&b, "%d[", id)
	for _, bind := range binds {
		fmt.Fprintf(&b, "%d:%s ", bind.Var, text(bind.T))
	}
	return b.String() + "] "
}

// all: the terms of these leaves with f of two arguments and g of one on top, up to that depth.
func all(depth int, leaves ...api.Term) []api.Term {
	list := slices.Clone(leaves)
	if depth == 1 {
		return list
	}
	lower := all(depth-1, leaves...)
	for _, l := range lower {
		list = append(list, f("g", l))
		for _, r := range lower {
			list = append(list, f("f", l, r))
		}
	}
	return list
}

// someTerm: by chance, of few names that stand with different numbers of arguments, and of so many variables.
func someTerm(r *rand.Rand, depth, variables int) api.Term {
	if depth == 1 || r.Intn(4) == 0 {
		if r.Intn(2) == 0 {
			return v(r.Intn(variables))
		}
		return f(string(rune('a' + r.Intn(2))))
	}
	t := f(string(rune('a' + r.Intn(2))))
	for range 1 + r.Intn(2) {
		t.Args = append(t.Args, someTerm(r, depth-1, variables))
	}
	return t
}

// model: what is kept, as a plain list; all else is worked out anew each time by the chapter's words.
type model map[int]api.Term

// path: the symbols of the parts, each as a text.
func path(t api.Term) []string {
	if t.Fn == "" {
		return []string{"*"}
	}
	list := []string{fmt.Sprintf("%q/%d", t.Fn, len(t.Args))}
	for _, arg := range t.Args {
		list = append(list, path(arg)...)
	}
	return list
}

// nodes: how many first parts the paths have, each counted once.
func (m model) nodes() int {
	met := map[string]struct{}{}
	for _, t := range m {
		whole := path(t)
		for k := range len(whole) + 1 {
			met[strings.Join(whole[:k], " ")] = struct{}{}
		}
	}
	return len(met)
}

// fits: goes through pattern and term side by side and gathers what stands for the variables; is there one thing for each?
func fits(pattern, t api.Term, found map[int]api.Term) bool {
	if pattern.Fn == "" {
		other, met := found[pattern.Var]
		found[pattern.Var] = t
		return !met || text(other) == text(t)
	}
	if pattern.Fn != t.Fn || len(pattern.Args) != len(t.Args) {
		return false
	}
	for i, arg := range pattern.Args {
		if !fits(arg, t.Args[i], found) {
			return false
		}
	}
	return true
}

// generals: the hits as one text.
func (m model) generals(t api.Term) string {
	var told strings.Builder
	for _, id := range slices.Sorted(maps.Keys(m)) {
		found := map[int]api.Term{}
		if !fits(m[id], t, found) {
			continue
		}
		var binds []api.Bind
		for _, number := range slices.Sorted(maps.Keys(found)) {
			if text(found[number]) != text(v(number)) {
				binds = append(binds, api.Bind{Var: number, T: found[number]})
			}
		}
		told.WriteString(hitText(id, binds))
	}
	return told.String()
}

// named: the term as a text, its variables by the order in which they come first: variants have one text.
func named(t api.Term) string {
	names := map[int]int{}
	var rename func(api.Term) api.Term
	rename = func(t api.Term) api.Term {
		if t.Fn == "" {
			if _, met := names[t.Var]; !met {
				names[t.Var] = len(names)
			}
			return v(names[t.Var])
		}
		out := f(t.Fn)
		for _, arg := range t.Args {
			out.Args = append(out.Args, rename(arg))
		}
		return out
	}
	return text(rename(t))
}

func (m model) variants(t api.Term) []int {
	var list []int
	for _, id := range slices.Sorted(maps.Keys(m)) {
		if named(m[id]) == named(t) {
			list = append(list, id)
		}
	}
	return list
}

// told: the answer of Generals as one text.
func told(hits []Hit) string {
	var b strings.Builder
	for _, hit := range hits {
		b.WriteString(hitText(hit.Id, hit.Binds))
	}
	return b.String()
}

// spoil: writes into all of a list, its spare room, and the terms' lists too.
func spoil(list []api.Term) {
	list = list[:cap(list)]
	for i := range list {
		spoil(list[i].Args)
		list[i] = api.Term{Var: -7, Fn: "spoilt"}
	}
}

func spoilHits(hits []Hit) {
	hits = hits[:cap(hits)]
	for i := range hits {
		binds := hits[i].Binds[:cap(hits[i].Binds)]
		for k := range binds {
			spoil(binds[k].T.Args)
			binds[k] = api.Bind{Var: -7, T: f("spoilt")}
		}
		hits[i] = Hit{Id: -7}
	}
}

// wantGenerals, wantVariants: the answer, twice, the first time in memory that is written into.
func wantGenerals(t *testing.T, x *Tree, in api.Term, want string) {
	t.Helper()
	for range 2 {
		hits := x.Generals(in)
		if got := told(hits); got != want {
			t.Errorf("Generals(%.200s): %.300s, not %.300s", text(in), got, want)
		}
		spoilHits(hits)
	}
}

func wantVariants(t *testing.T, x *Tree, in api.Term, want ...int) {
	t.Helper()
	for range 2 {
		list := x.Variants(in)
		if !slices.Equal(list, want) {
			t.Errorf("Variants(%.200s): %v, not %v", text(in), list, want)
		}
		list = list[:cap(list)]
		for i := range list {
			list[i] = -7
		}
	}
}

// wantAsked: both, as the model has it.
func wantAsked(t *testing.T, x *Tree, m model, in api.Term) {
	t.Helper()
	wantGenerals(t, x, in, m.generals(in))
	wantVariants(t, x, in, m.variants(in)...)
}

// wantInsert, wantRemove: what is answered, and how many terms and nodes there are then.
func wantInsert(t *testing.T, x *Tree, id int, in api.Term, want api.Errno, size, nodes int) {
	t.Helper()
	if got := x.Insert(id, in); got != want || x.Len() != size || x.Nodes() != nodes {
		t.Errorf("Insert(%d, %.200s): %d, Len %d, Nodes %d, not %d, Len %d, Nodes %d", id, text(in), got, x.Len(), x.Nodes(), want, size, nodes)
	}
}

func wantRemove(t *testing.T, x *Tree, id int, want api.Errno, size, nodes int) {
	t.Helper()
	if got := x.Remove(id); got != want || x.Len() != size || x.Nodes() != nodes {
		t.Errorf("Remove(%d): %d, Len %d, Nodes %d, not %d, Len %d, Nodes %d", id, got, x.Len(), x.Nodes(), want, size, nodes)
	}
}
