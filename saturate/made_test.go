package saturate

import (
	"fmt"
	"math/rand"
	"slices"
	"strconv"
	"strings"
	"testing"

	"assize/api"
	"assize/kbo"
)

func v(number int) api.Term { return api.Term{Var: number} }

func fn(name string, args ...api.Term) api.Term { return api.Term{Fn: name, Args: args} }

func yes(l, r api.Term) api.Lit { return api.Lit{L: l, R: r} }

func not(l, r api.Term) api.Lit { return api.Lit{Neg: true, L: l, R: r} }

func atom(t api.Term) api.Lit { return yes(t, fn("$true")) }

func of(l ...api.Lit) api.Clause { return l }

// many: so many copies of a thing.
func many[T any](count int, t T) []T { return slices.Repeat([]T{t}, count) }

// chain: f(f(..(last))), so many parts within one another.
func chain(depth int, last api.Term) api.Term {
	for range depth - 1 {
		last = fn("f", last)
	}
	return last
}

// flat: of so many parts, no deeper than it must be, with leaf at each end.
func flat(size int, leaf api.Term) api.Term {
	if size == 1 {
		return leaf
	}
	count := min(api.MaxArgs, size-1)
	t := fn("flat")
	for i := range count {
		share := (size - 1) / count
		if i < (size-1)%count {
			share++
		}
		t.Args = append(t.Args, flat(share, leaf))
	}
	return t
}

// sign: a signature of the names, from the lowest to the highest.
func sign(names string) kbo.Sign { return kbo.Sign{Names: strings.Fields(names)} }

// strategies: of each kind, with that ratio.
func strategies(ratio int) []Strategy {
	return []Strategy{{Ratio: ratio}, {Path: true, Ratio: ratio}, {Sel: true, Ratio: ratio}, {Path: true, Sel: true, Ratio: ratio}}
}

// readTerm: X and a number is a variable, all else a function; and what is left of the text.
func readTerm(s string) (api.Term, string) {
	end := strings.IndexAny(s+")", "(),")
	name, rest := s[:end], s[end:]
	if number, err := strconv.Atoi(strings.TrimPrefix(name, "X")); err == nil {
		return v(number), rest
	}
	t := fn(name)
	for strings.HasPrefix(rest, "(") || len(t.Args) > 0 && strings.HasPrefix(rest, ",") {
		arg, behind := readTerm(rest[1:])
		t.Args, rest = append(t.Args, arg), behind
	}
	if len(t.Args) > 0 {
		rest = strings.TrimPrefix(rest, ")")
	}
	return t, rest
}

func readWhole(t *testing.T, s string) api.Term {
	t.Helper()
	made, rest := readTerm(s)
	if rest != "" || strings.ContainsAny(s, " =~|") {
		t.Fatalf("no term: %q", s)
	}
	return made
}

// read: a clause, with " | " between its literals, each an equation with = or !=, or an atom, ~ ahead of it if it is Neg. The text 0 is the empty one.
func read(t *testing.T, s string) api.Clause {
	t.Helper()
	var c api.Clause
	if s == "0" {
		return c
	}
	for _, text := range strings.Split(s, " | ") {
		l, r, differ := strings.Cut(text, "!=")
		equal := false
		if !differ {
			l, r, equal = strings.Cut(text, "=")
		}
		if !differ && !equal {
			l, differ = strings.CutPrefix(text, "~")
			r = "$true"
		}
		c = append(c, api.Lit{Neg: differ, L: readWhole(t, l), R: readWhole(t, r)})
	}
	return c
}

// inputs: the clauses, parted by "; ", each of the name in and its number as index.
func inputs(t *testing.T, s string) []Input {
	t.Helper()
	var list []Input
	for i, text := range strings.Split(s, "; ") {
		list = append(list, Input{Name: "in", Index: i, C: read(t, text)})
	}
	return list
}

// begun: an engine, of great limits.
func begun(t *testing.T, g kbo.Sign, st Strategy, l []Input) *Engine {
	t.Helper()
	e, errno := New(g, st, api.MaxSteps, mostNodes, l)
	if e == nil || errno != api.OK {
		t.Fatalf("New of %s: %v", sayInputs(l), errno)
	}
	return e
}

// run: as many steps as it takes, at most so many; and how many it took.
func run(e *Engine, most int) int {
	for count := range most {
		if e.Step() != Running {
			return count + 1
		}
	}
	return most
}

// text: a term as readTerm reads it.
func text(t api.Term) string {
	if t.Fn == "" {
		return "X" + strconv.Itoa(t.Var)
	}
	var args []string
	for _, arg := range t.Args {
		args = append(args, text(arg))
	}
	if len(args) == 0 {
		return t.Fn
	}
	return t.Fn + "(" + strings.Join(args, ",") + ")"
}

// say: a clause as read reads it.
func say(c api.Clause) string {
	var list []string
	for _, l := range c {
		switch {
		case strings.HasPrefix(l.L.Fn, "@") && text(l.R) == "$true":
			list = append(list, map[bool]string{true: "~", false: ""}[l.Neg]+text(l.L))
		default:
			list = append(list, text(l.L)+map[bool]string{true: "!=", false: "="}[l.Neg]+text(l.R))
		}
	}
	if len(list) == 0 {
		return "0"
	}
	return strings.Join(list, " | ")
}

// sayAll: clauses as inputs reads them.
func sayAll(l []api.Clause) string {
	var list []string
	for _, c := range l {
		list = append(list, say(c))
	}
	return strings.Join(list, "; ")
}

func sayInputs(l []Input) string {
	var list []api.Clause
	for _, in := range l {
		list = append(list, in.C)
	}
	return sayAll(list)
}

func sayBinds(s []api.Bind) string {
	var list []string
	for _, b := range s {
		list = append(list, fmt.Sprint(b.Var, ":", text(b.T)))
	}
	return "{" + strings.Join(list, ",") + "}"
}

// own: the step with what its rule has alone.
func own(s api.Step) api.Step {
	switch s.Rule {
	case api.RInput:
		return api.Step{Rule: s.Rule, Name: s.Name, Index: s.Index, C: s.C}
	case api.RClean:
		return api.Step{Rule: s.Rule, A: s.A, C: s.C}
	case api.REqRes:
		return api.Step{Rule: s.Rule, A: s.A, LitA: s.LitA, SA: s.SA, C: s.C}
	case api.REqFact:
		return api.Step{Rule: s.Rule, A: s.A, LitA: s.LitA, FlipA: s.FlipA, LitB: s.LitB, FlipB: s.FlipB, SA: s.SA, C: s.C}
	}
	s.Name, s.Index = "", 0
	return s
}

// sayStep: all that a step has: its rule, its name and index, its parents with their literals, their sides, the place, the instances, the clause.
func sayStep(s api.Step) string {
	if fmt.Sprintf("%#v", own(s)) != fmt.Sprintf("%#v", s) || s.Rule < api.RInput || s.Rule > api.RClean {
		return fmt.Sprintf("a step with more than its rule has: %+v", s)
	}
	side := map[bool]string{true: "R", false: "L"}
	switch s.Rule {
	case api.RInput:
		return fmt.Sprint(s.Name, " ", s.Index, " ", say(s.C))
	case api.RClean:
		return fmt.Sprint("clean ", s.A, " ", say(s.C))
	case api.REqRes:
		return fmt.Sprint("res ", s.A, ".", s.LitA, " ", sayBinds(s.SA), " ", say(s.C))
	case api.REqFact:
		return fmt.Sprint("fact ", s.A, ".", s.LitA, side[s.FlipA], ".", s.LitB, side[s.FlipB], " ", sayBinds(s.SA), " ", say(s.C))
	case api.RDemod:
		return fmt.Sprint("demod ", s.A, ".", s.LitA, side[s.FlipA], " ", slices.Concat([]int{}, s.Pos), " by ", s.B, ".", s.LitB, side[s.FlipB], " ", sayBinds(s.SA), sayBinds(s.SB), " ", say(s.C))
	}
	return fmt.Sprint("sup ", s.A, ".", s.LitA, side[s.FlipA], " into ", s.B, ".", s.LitB, side[s.FlipB], " ", slices.Concat([]int{}, s.Pos), " ", sayBinds(s.SA), sayBinds(s.SB), " ", say(s.C))
}

func saySteps(l []api.Step) string {
	var list []string
	for _, s := range l {
		list = append(list, sayStep(s))
	}
	return strings.Join(list, "; ")
}

// wantText: these are alike.
func wantText(t *testing.T, what, got, want string) {
	t.Helper()
	if got != want {
		t.Errorf("%s:\n%s, not\n%s", what, got, want)
	}
}

// maker: of clauses by chance, of few names and variables, so that much fits.
type maker struct{ *rand.Rand }

func newMaker(seed int64) maker { return maker{rand.New(rand.NewSource(seed))} }

func (m maker) pick(names ...string) string { return names[m.Intn(len(names))] }

func (m maker) thing(depth int) api.Term {
	if depth <= 1 || m.Intn(3) == 0 {
		if m.Intn(2) == 0 {
			return v(m.Intn(3))
		}
		return fn(m.pick("a", "b", "c"))
	}
	if m.Intn(2) == 0 {
		return fn("f", m.thing(depth-1))
	}
	return fn("g", m.thing(depth-1), m.thing(depth-1))
}

func (m maker) truth(depth int) api.Term {
	switch m.Intn(4) {
	case 0:
		return fn("@p", m.thing(depth-1))
	case 1:
		return fn("@q", m.thing(depth-1), m.thing(depth-1))
	case 2:
		return fn(m.pick("@r", "@s"))
	}
	return fn("$true")
}

func (m maker) literal(depth int) api.Lit {
	l := api.Lit{Neg: m.Intn(5) < 2, L: m.thing(depth), R: m.thing(depth)}
	switch m.Intn(6) {
	case 0, 1:
		l.L, l.R = m.truth(depth), fn("$true")
	case 2:
		l.L, l.R = m.truth(depth), m.truth(depth)
	}
	return l
}

func (m maker) clause(most, depth int) api.Clause {
	var c api.Clause
	for range 1 + m.Intn(most) {
		c = append(c, m.literal(depth))
		if m.Intn(6) == 0 {
			c = append(c, c[m.Intn(len(c))])
		}
	}
	return c
}

// problem: so many clauses at most; now and then one comes again.
func (m maker) problem(most, literals, depth int) []Input {
	var list []Input
	for range 1 + m.Intn(most) {
		in := Input{Name: m.pick("", "one", "two"), Index: m.Intn(5), C: m.clause(literals, depth)}
		if len(list) > 0 && m.Intn(10) == 0 {
			in = list[m.Intn(len(list))]
		}
		list = append(list, in)
	}
	return list
}

// sign: some names, some weights.
func (m maker) sign() kbo.Sign {
	names := []string{"a", "b", "c", "f", "g", "@p", "@q", "@r", "@s"}
	m.Shuffle(len(names), func(i, k int) { names[i], names[k] = names[k], names[i] })
	g := kbo.Sign{Names: names[:m.Intn(len(names)+1)]}
	for range g.Names {
		if m.Intn(2) == 0 {
			g.Weights = append(g.Weights, 1+m.Intn(3))
		}
	}
	return g
}

func (m maker) strategy() Strategy {
	return Strategy{Path: m.Intn(2) == 0, Sel: m.Intn(2) == 0, Ratio: 1 + m.Intn(4)}
}
