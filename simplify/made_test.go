package simplify

import (
	"fmt"
	"math/rand"
	"slices"
	"strconv"
	"strings"
	"testing"

	"assize/api"
	"assize/kbo"
	"assize/multi"
)

func v(number int) api.Term { return api.Term{Var: number} }

func fn(name string, args ...api.Term) api.Term { return api.Term{Fn: name, Args: args} }

func yes(l, r api.Term) api.Lit { return api.Lit{L: l, R: r} }

func not(l, r api.Term) api.Lit { return api.Lit{Neg: true, L: l, R: r} }

func atom(t api.Term) api.Lit { return yes(t, fn("$true")) }

func of(l ...api.Lit) api.Clause { return l }

// many: so many copies of a thing.
func many[T any](count int, t T) []T { return slices.Repeat([]T{t}, count) }

// chain: f(f(..(last))), so many parts within one another.
func chain(depth int, last api.Term) api.Term {
	for range depth - 1 {
		last = fn("f", last)
	}
	return last
}

// flat: of so many parts, no deeper than it must be, with leaf at each end.
func flat(size int, leaf api.Term) api.Term {
	if size == 1 {
		return leaf
	}
	count := min(api.MaxArgs, size-1)
	t := fn("flat")
	for i := range count {
		share := (size - 1) / count
		if i < (size-1)%count {
			share++
		}
		t.Args = append(t.Args, flat(share, leaf))
	}
	return t
}

// kb, lp: orders by the names, from the lowest to the highest.
func kb(names string) multi.Order { return multi.Order{G: kbo.Sign{Names: strings.Fields(names)}} }

func lp(names string) multi.Order {
	return multi.Order{Path: true, G: kbo.Sign{Names: strings.Fields(names)}}
}

// readTerm: X and a number is a variable, all else a function; and what is left of the text.
func readTerm(s string) (api.Term, string) {
	end := strings.IndexAny(s+")", "(),")
	name, rest := s[:end], s[end:]
	if number, err := strconv.Atoi(strings.TrimPrefix(name, "X")); err == nil {
		return v(number), rest
	}
	t := fn(name)
	for strings.HasPrefix(rest, "(") || len(t.Args) > 0 && strings.HasPrefix(rest, ",") {
		arg, behind := readTerm(rest[1:])
		t.Args, rest = append(t.Args, arg), behind
	}
	if len(t.Args) > 0 {
		rest = strings.TrimPrefix(rest, ")")
	}
	return t, rest
}

func readWhole(t *testing.T, s string) api.Term {
	t.Helper()
	made, rest := readTerm(s)
	if rest != "" || strings.ContainsAny(s, " =~|") {
		t.Fatalf("no term: %q", s)
	}
	return made
}

// read: a clause, with " | " between its literals, each an equation with = or !=, or an atom, ~ ahead of it if it is Neg. The text 0 is the empty one.
func read(t *testing.T, s string) api.Clause {
	t.Helper()
	var c api.Clause
	if s == "0" {
		return c
	}
	for _, text := range strings.Split(s, " | ") {
		l, r, differ := strings.Cut(text, "!=")
		equal := false
		if !differ {
			l, r, equal = strings.Cut(text, "=")
		}
		if !differ && !equal {
			l, differ = strings.CutPrefix(text, "~")
			r = "$true"
		}
		c = append(c, api.Lit{Neg: differ, L: readWhole(t, l), R: readWhole(t, r)})
	}
	return c
}

// text: a term as readTerm reads it.
func text(t api.Term) string {
	if t.Fn == "" {
		return "X" + strconv.Itoa(t.Var)
	}
	var args []string
	for _, arg := range t.Args {
		args = append(args, text(arg))
	}
	if len(args) == 0 {
		return t.Fn
	}
	return t.Fn + "(" + strings.Join(args, ",") + ")"
}

// say: a clause as read reads it.
func say(c api.Clause) string {
	var list []string
	for _, l := range c {
		switch {
		case strings.HasPrefix(l.L.Fn, "@") && text(l.R) == "$true":
			list = append(list, map[bool]string{true: "~", false: ""}[l.Neg]+text(l.L))
		default:
			list = append(list, text(l.L)+map[bool]string{true: "!=", false: "="}[l.Neg]+text(l.R))
		}
	}
	if len(list) == 0 {
		return "0"
	}
	return strings.Join(list, " | ")
}

func sayBinds(s []api.Bind) string {
	var list []string
	for _, b := range s {
		list = append(list, fmt.Sprint(b.Var, ":", text(b.T)))
	}
	return "{" + strings.Join(list, ",") + "}"
}

// sayStep: all that a step has. Of RDemod: the unit with its side, the literal with its side, the place, the match, the clause; of RClean the clause.
func sayStep(s api.Step) string {
	at := func(number int, flip bool) string {
		return strconv.Itoa(number) + map[bool]string{true: "R", false: "L"}[flip]
	}
	rest := api.Step{Rule: s.Rule, C: s.C}
	told := say(s.C)
	if s.Rule == api.RDemod {
		told = fmt.Sprint(at(s.B, s.FlipB), " ", at(s.LitA, s.FlipA), " ", slices.Concat([]int{}, s.Pos), " ", sayBinds(s.SB), " ", told)
		rest.B, rest.FlipB, rest.LitA, rest.FlipA, rest.Pos, rest.SB = s.B, s.FlipB, s.LitA, s.FlipA, s.Pos, s.SB
	}
	if fmt.Sprintf("%#v", rest) != fmt.Sprintf("%#v", s) || s.Rule != api.RDemod && s.Rule != api.RClean {
		return fmt.Sprintf("a step with more than its rule has: %+v", s)
	}
	return told
}

func saySteps(l []api.Step) string {
	var list []string
	for _, s := range l {
		list = append(list, sayStep(s))
	}
	return strings.Join(list, "; ")
}

// unitsOf: the clauses, parted by "; ", with the numbers 10, 11, ..
func unitsOf(t *testing.T, s string) []Unit {
	t.Helper()
	var list []Unit
	for i, text := range strings.Split(s, "; ") {
		list = append(list, Unit{Id: 10 + i, C: read(t, text)})
	}
	return list
}

// bulk: a literal of more parts than are asked for one by one, in which nothing is rewritten.
func bulk() api.Lit { return not(fn("zz", flat(manyParts, fn("z"))), fn("z")) }

// crowd: so many units that a tree of them is made; none of them rewrites anything.
func crowd() []Unit {
	var list []Unit
	for i := range manyUnits + 1 {
		list = append(list, Unit{Id: 1000 + i, C: of(yes(fn("zzz"+strconv.Itoa(i), v(0)), fn("z")))})
	}
	return list
}

// answer: of Rewrite.
type answer struct {
	steps []api.Step
	lost  bool
}

// rewrites: what Rewrite answers, and what it would by each way to look for units alone.
func rewrites(o multi.Order, units []Unit, c api.Clause) map[string]answer {
	l, lost := Rewrite(o, units, c)
	list := map[string]answer{"Rewrite": {l, lost}}
	if kbo.Right(o.G) != api.OK || !ready(c) {
		return list
	}
	for name, matches := range map[string]matcher{"Rewrite one by one": oneByOne(units), "Rewrite by a tree": byTree(units)} {
		l, lost := rewriter{order: o, matches: matches}.steps(c)
		list[name] = answer{l, lost}
	}
	return list
}

// want: these steps of Rewrite, and whether something was lost.
func want(t *testing.T, o multi.Order, units []Unit, c api.Clause, steps string, lost bool) {
	t.Helper()
	for name, a := range rewrites(o, units, c) {
		if got := saySteps(a.steps); got != steps || a.lost != lost {
			t.Errorf("%s of %s:\n%s, %v, not\n%s, %v", name, say(c), got, a.lost, steps, lost)
		}
	}
}

// maker: of clauses by chance, of few names and variables, so that much fits.
type maker struct{ *rand.Rand }

func newMaker(seed int64) maker { return maker{rand.New(rand.NewSource(seed))} }

func (m maker) pick(names ...string) string { return names[m.Intn(len(names))] }

func (m maker) thing(depth int) api.Term {
	if depth <= 1 || m.Intn(3) == 0 {
		if m.Intn(2) == 0 {
			return v(m.Intn(3))
		}
		return fn(m.pick("a", "b", "c"))
	}
	if m.Intn(2) == 0 {
		return fn("f", m.thing(depth-1))
	}
	return fn("g", m.thing(depth-1), m.thing(depth-1))
}

func (m maker) truth(depth int) api.Term {
	switch m.Intn(4) {
	case 0:
		return fn("@p", m.thing(depth-1))
	case 1:
		return fn("@q", m.thing(depth-1), m.thing(depth-1))
	case 2:
		return fn(m.pick("@r", "@s"))
	}
	return fn("$true")
}

func (m maker) literal(depth int) api.Lit {
	l := api.Lit{Neg: m.Intn(3) == 0, L: m.thing(depth), R: m.thing(depth)}
	switch m.Intn(6) {
	case 0, 1:
		l.L, l.R = m.truth(depth), fn("$true")
	case 2:
		l.L, l.R = m.truth(depth), m.truth(depth)
	}
	return l
}

func (m maker) clause(most, depth int) api.Clause {
	var c api.Clause
	for range 1 + m.Intn(most) {
		c = append(c, m.literal(depth))
		if m.Intn(6) == 0 {
			c = append(c, c[m.Intn(len(c))])
		}
	}
	return c
}

// order: one of both kinds, some names, some weights.
func (m maker) order() multi.Order {
	names := []string{"a", "b", "c", "f", "g", "@p", "@q", "@r", "@s"}
	m.Shuffle(len(names), func(i, k int) { names[i], names[k] = names[k], names[i] })
	o := multi.Order{Path: m.Intn(2) == 0, G: kbo.Sign{Names: names[:m.Intn(len(names)+1)]}}
	for range o.G.Names {
		if m.Intn(2) == 0 {
			o.G.Weights = append(o.G.Weights, 1+m.Intn(3))
		}
	}
	return o
}
