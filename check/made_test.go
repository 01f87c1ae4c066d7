package check

import (
	"fmt"
	"math/rand"
	"slices"
	"strconv"
	"strings"
	"testing"

	"assize/api"
	"assize/lits"
	"assize/syntax"
)

func v(number int) api.Term { return api.Term{Var: number} }

func fn(name string, args ...api.Term) api.Term { return api.Term{Fn: name, Args: args} }

func yes(l, r api.Term) api.Lit { return api.Lit{L: l, R: r} }

func not(l, r api.Term) api.Lit { return api.Lit{Neg: true, L: l, R: r} }

func atom(t api.Term) api.Lit { return yes(t, fn("$true")) }

func of(l ...api.Lit) api.Clause { return l }

// many: so many copies of a thing.
func many[T any](count int, t T) []T { return slices.Repeat([]T{t}, count) }

// chain: f(f(..(last))), so many parts within one another.
func chain(depth int, last api.Term) api.Term {
	for range depth - 1 {
		last = fn("f", last)
	}
	return last
}

// flat: of so many parts, no deeper than it must be, with leaf at each end.
func flat(size int, leaf api.Term) api.Term {
	if size == 1 {
		return leaf
	}
	count := min(api.MaxArgs, size-1)
	t := fn("flat")
	for i := range count {
		share := (size - 1) / count
		if i < (size-1)%count {
			share++
		}
		t.Args = append(t.Args, flat(share, leaf))
	}
	return t
}

// readTerm: X and a number is a variable, all else a function; and what is left of the text.
func readTerm(s string) (api.Term, string) {
	end := strings.IndexAny(s+")", "(),")
	name, rest := s[:end], s[end:]
	if number, err := strconv.Atoi(strings.TrimPrefix(name, "X")); err == nil {
		return v(number), rest
	}
	t := fn(name)
	for strings.HasPrefix(rest, "(") || len(t.Args) > 0 && strings.HasPrefix(rest, ",") {
		arg, behind := readTerm(rest[1:])
		t.Args, rest = append(t.Args, arg), behind
	}
	if len(t.Args) > 0 {
		rest = strings.TrimPrefix(rest, ")")
	}
	return t, rest
}

func readWhole(s string) api.Term {
	made, rest := readTerm(s)
	if rest != "" || strings.ContainsAny(s, " =~|") {
		panic("no term: " + s)
	}
	return made
}

// read: a clause, with " | " between its literals, each an equation with = or !=, or an atom, ~ ahead of it if it is Neg. The text 0 is the empty one.
func read(s string) api.Clause {
	var c api.Clause
	if s == "0" {
		return c
	}
	for _, text := range strings.Split(s, " | ") {
		l, r, differ := strings.Cut(text, "!=")
		equal := false
		if !differ {
			l, r, equal = strings.Cut(text, "=")
		}
		if !differ && !equal {
			l, differ = strings.CutPrefix(text, "~")
			r = "$true"
		}
		c = append(c, api.Lit{Neg: differ, L: readWhole(l), R: readWhole(r)})
	}
	return c
}

// readAll: clauses, parted by "; ".
func readAll(s string) []api.Clause {
	var list []api.Clause
	for _, text := range strings.Split(s, "; ") {
		list = append(list, read(text))
	}
	return list
}

// by: binds, each of a variable's number, a colon and a term.
func by(texts ...string) []api.Bind {
	var list []api.Bind
	for _, text := range texts {
		number, t, _ := strings.Cut(text, ":")
		at, err := strconv.Atoi(number)
		if err != nil {
			panic(err)
		}
		list = append(list, api.Bind{Var: at, T: readWhole(t)})
	}
	return list
}

// text: a term as readTerm reads it.
func text(t api.Term) string {
	if t.Fn == "" {
		return "X" + strconv.Itoa(t.Var)
	}
	var args []string
	for _, arg := range t.Args {
		args = append(args, text(arg))
	}
	if len(args) == 0 {
		return t.Fn
	}
	return t.Fn + "(" + strings.Join(args, ",") + ")"
}

// say: a clause as read reads it.
func say(c api.Clause) string {
	var list []string
	for _, l := range c {
		switch {
		case strings.HasPrefix(l.L.Fn, "@") && text(l.R) == "$true":
			list = append(list, map[bool]string{true: "~", false: ""}[l.Neg]+text(l.L))
		default:
			list = append(list, text(l.L)+map[bool]string{true: "!=", false: "="}[l.Neg]+text(l.R))
		}
	}
	if len(list) == 0 {
		return "0"
	}
	return strings.Join(list, " | ")
}

func sayAll(l []api.Clause) string {
	var list []string
	for _, c := range l {
		list = append(list, say(c))
	}
	return strings.Join(list, "; ")
}

func sayGiven(l []Given) string {
	var list []string
	for _, g := range l {
		list = append(list, g.Name+": "+sayAll(g.L))
	}
	return strings.Join(list, " / ")
}

func sayBinds(s []api.Bind) string {
	var list []string
	for _, b := range s {
		list = append(list, fmt.Sprint(b.Var, ":", text(b.T)))
	}
	return "{" + strings.Join(list, ",") + "}"
}

// sayStep: all that a step has.
func sayStep(s api.Step) string {
	side := map[bool]string{true: "R", false: "L"}
	return fmt.Sprint("rule ", s.Rule, " ", s.Name, " ", s.Index, " of ", s.A, ".", s.LitA, side[s.FlipA], " and ", s.B, ".", s.LitB, side[s.FlipB],
		" at ", slices.Concat([]int{}, s.Pos), " ", sayBinds(s.SA), sayBinds(s.SB), ": ", say(s.C))
}

func saySteps(l []api.Step) string {
	var list []string
	for i, s := range l {
		list = append(list, fmt.Sprint(i, " ", sayStep(s)))
	}
	return strings.Join(list, "\n")
}

// told: steps of no rule, which tell these clauses, for others to come of them.
func told(l ...api.Clause) []api.Step {
	var steps []api.Step
	for _, c := range l {
		steps = append(steps, api.Step{C: c})
	}
	return steps
}

// answer: what Step tells of the last step, as a text; none, if it says nothing.
func answer(t *testing.T, given []Given, proof []api.Step) string {
	t.Helper()
	c, errno := Step(given, proof, len(proof)-1)
	if errno == api.OK {
		return say(c)
	}
	if errno != api.ErrProof || c != nil {
		t.Errorf("Step: %s, error %d", say(c), errno)
	}
	return "none"
}

// wantText: these are alike.
func wantText(t *testing.T, what, got, want string) {
	t.Helper()
	if got != want {
		t.Errorf("%s:\n%s, not\n%s", what, got, want)
	}
}

// wantProof: Proof's answers.
func wantProof(t *testing.T, what string, given []Given, proof []api.Step, want int, wantErrno api.Errno) {
	t.Helper()
	if at, errno := Proof(given, proof); at != want || errno != wantErrno {
		t.Errorf("%s: %d, %d, not %d, %d", what, at, errno, want, wantErrno)
	}
}

// formula: read from its text.
func formula(s string) api.Formula {
	f, at, errno := syntax.Fof(s)
	if errno != api.OK {
		panic(fmt.Sprint(s, ": ", errno, " at ", at))
	}
	return f
}

// axioms: each with its name ahead of a colon.
func axioms(texts ...string) []Named {
	var list []Named
	for _, text := range texts {
		name, f, _ := strings.Cut(text, ": ")
		list = append(list, Named{Name: name, F: formula(f)})
	}
	return list
}

// maker: of clauses by chance, of few names and variables, so that much fits.
type maker struct{ *rand.Rand }

func newMaker(seed int64) maker { return maker{rand.New(rand.NewSource(seed))} }

func (m maker) pick(names ...string) string { return names[m.Intn(len(names))] }

func (m maker) thing(depth int) api.Term {
	if depth <= 1 || m.Intn(3) == 0 {
		if m.Intn(2) == 0 {
			return v(m.Intn(3))
		}
		return fn(m.pick("a", "b", "c"))
	}
	if m.Intn(2) == 0 {
		return fn("f", m.thing(depth-1))
	}
	return fn("g", m.thing(depth-1), m.thing(depth-1))
}

func (m maker) truth(depth int) api.Term {
	switch m.Intn(4) {
	case 0:
		return fn("@p", m.thing(depth-1))
	case 1:
		return fn("@q", m.thing(depth-1), m.thing(depth-1))
	case 2:
		return fn(m.pick("@r", "@s"))
	}
	return fn("$true")
}

func (m maker) literal(depth int) api.Lit {
	l := api.Lit{Neg: m.Intn(5) < 2, L: m.thing(depth), R: m.thing(depth)}
	switch m.Intn(6) {
	case 0, 1:
		l.L, l.R = m.truth(depth), fn("$true")
	case 2:
		l.L, l.R = m.truth(depth), m.truth(depth)
	}
	return l
}

func (m maker) clause(most, depth int) api.Clause {
	var c api.Clause
	for range 1 + m.Intn(most) {
		c = append(c, m.literal(depth))
		if m.Intn(6) == 0 {
			c = append(c, c[m.Intn(len(c))])
		}
	}
	return c
}

// binds: for some of the first variables; of wrong ones as many as one in so many.
func (m maker) binds(wrong int) []api.Bind {
	var s []api.Bind
	for number := range 3 {
		if t := m.thing(2); m.Intn(3) > 0 && text(t) != text(v(number)) {
			s = append(s, api.Bind{Var: number, T: t})
		}
	}
	if m.Intn(wrong) > 0 {
		return s
	}
	switch m.Intn(5) {
	case 0:
		return append(s, api.Bind{Var: 3 + m.Intn(3), T: m.truth(2)})
	case 1:
		return append(s, api.Bind{Var: 3, T: fn("f", m.truth(2))})
	case 2:
		return append([]api.Bind{{Var: 3, T: v(0)}}, s...)
	case 3:
		return append(s, api.Bind{Var: 4, T: v(4)})
	}
	return append(s, api.Bind{Var: 1, T: fn("@r")})
}

// wrongClauses: clauses that are not right, or not sorted, each in another way.
func wrongClauses() []api.Clause {
	a, p := fn("a"), fn("@p")
	return []api.Clause{
		of(yes(v(-1), a)), of(yes(a, v(api.MaxVar))), of(yes(a, a), yes(api.Term{Args: []api.Term{a}}, a)), of(yes(a, api.Term{Var: 1, Fn: "a"})),
		of(atom(fn("@p", many(api.MaxArgs+1, a)...))), of(yes(fn(strings.Repeat("n", api.MaxName+1)), a)), of(yes(chain(api.MaxDepth+1, a), a)), of(yes(chain(1<<16, a), a)),
		of(yes(flat(api.MaxNodes, a), a)), many(api.MaxLits+1, yes(a, a)),
		of(yes(a, p)), of(yes(p, a)), of(not(v(0), p)), of(yes(fn("$true"), v(0))), of(yes(a, fn("$true"))), of(atom(p), not(fn("f", p), a)), of(not(fn("f", fn("$true")), a)),
		of(atom(fn("@p", p))), of(atom(fn("@p", fn("f", fn("f", fn("@q")))))), of(yes(p, fn("@q", fn("$true")))), of(yes(fn("$true"), fn("f", p))), of(yes(fn("$true", a), a)), of(yes(fn("@"), a)),
	}
}

// oddClauses: right clauses that are near to those.
func oddClauses() []api.Clause {
	a, p := fn("a"), fn("@p")
	return []api.Clause{
		nil, of(yes(v(api.MaxVar-1), a)), of(atom(fn("@p", many(api.MaxArgs, a)...))), of(yes(fn(strings.Repeat("n", api.MaxName)), a)), of(yes(chain(api.MaxDepth, a), a)),
		of(yes(flat(api.MaxNodes-1, a), a)), many(api.MaxLits, yes(a, a)), of(yes(p, fn("@q"))), of(yes(fn("$true"), p)), of(not(fn("$true"), fn("$true"))), of(yes(fn("@"), p)),
		of(yes(v(0), v(1))), of(yes(fn("$true "), a)), of(yes(fn("true"), a)), of(yes(fn("$s0_0"), fn(" @p"))), of(atom(fn("@$d0_0", v(7)))), of(yes(fn("f@"), a)),
	}
}

// normal: the clause as one that comes of a step stands.
func normal(s string) api.Clause { return lits.Normal(read(s)) }
