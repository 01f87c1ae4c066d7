package subst

import (
	"fmt"
	"math"
	"math/rand"
	"slices"
	"strings"
	"testing"

	"assize/api"
	"assize/term"
)

func v(number int) api.Term { return api.Term{Var: number} }

func f(name string, args ...api.Term) api.Term { return api.Term{Fn: name, Args: args} }

func bind(number int, t api.Term) api.Bind { return api.Bind{Var: number, T: t} }

func binds(l ...api.Bind) []api.Bind { return l }

// chain: f(f(..(last))), so many parts within one another.
func chain(depth int, last api.Term) api.Term {
	t := last
	for range depth - 1 {
		t = f("f", t)
	}
	return t
}

// flat: of so many parts, no deeper than it must be, with leaf at each end.
func flat(size int, leaf api.Term) api.Term {
	if size == 1 {
		return leaf
	}
	count := min(api.MaxArgs, size-1)
	t := f("f")
	for i := range count {
		share := (size - 1) / count
		if i < (size-1)%count {
			share++
		}
		t.Args = append(t.Args, flat(share, leaf))
	}
	return t
}

// many: so many copies of t.
func many(count int, t api.Term) []api.Term { return slices.Repeat([]api.Term{t}, count) }

// row: binds from a first variable on, so many, all with one T.
func row(first, count int, t api.Term) []api.Bind {
	var s []api.Bind
	for i := range count {
		s = append(s, bind(first+i, t))
	}
	return s
}

// wrongs: terms that are not right, each in another way.
func wrongs() []api.Term {
	bad := []api.Term{
		v(-1), v(api.MaxVar), v(math.MinInt), v(math.MaxInt),
		{Args: many(1, f("a"))}, {Var: 3, Args: many(2, v(1))}, {Var: 1, Fn: "a"},
		f(strings.Repeat("n", api.MaxName+1)), f("f", many(api.MaxArgs+1, v(0))...),
	}
	for _, t := range slices.Clone(bad) {
		bad = append(bad, f("g", f("a"), f("h", t)))
	}
	return append(bad, chain(api.MaxDepth+1, f("a")), flat(api.MaxNodes+1, f("a")), chain(1<<16, v(1)))
}

// wrongSubsts: what is no substitution, each in another way.
func wrongSubsts() [][]api.Bind {
	a := f("a")
	list := [][]api.Bind{
		binds(bind(-1, a)), binds(bind(api.MaxVar, a)), binds(bind(math.MinInt, a)), binds(bind(math.MaxInt, a)),
		binds(bind(-1, v(-1))), binds(bind(api.MaxVar, v(api.MaxVar))),
		binds(bind(-1, a), bind(0, a)), binds(bind(0, a), bind(api.MaxVar, a)),
		binds(bind(0, a), bind(0, a)), binds(bind(4, a), bind(4, f("b"))), binds(bind(1, a), bind(0, a)),
		binds(bind(0, a), bind(2, a), bind(1, a)), binds(bind(0, a), bind(2, a), bind(2, a), bind(3, a)), binds(bind(0, a), bind(5, a), bind(3, a), bind(4, a)),
		binds(bind(0, v(0))), binds(bind(1, v(1))), binds(bind(api.MaxVar-1, v(api.MaxVar-1))), binds(bind(0, a), bind(1, v(1)), bind(2, a)),
		row(0, api.MaxNodes+1, a), row(7, 2*api.MaxNodes, a),
	}
	for _, bad := range wrongs() {
		list = append(list, binds(bind(2, bad)), binds(bind(0, a), bind(9, bad)), binds(bind(0, bad), bind(9, a)))
	}
	return list
}

// anyTerm: a right term of few names and variables, so that equal ones come often.
func anyTerm(r *rand.Rand, depth int) api.Term {
	if depth == 1 || r.Intn(3) == 0 {
		if r.Intn(4) == 0 {
			return f([]string{"a", "b"}[r.Intn(2)])
		}
		return v(r.Intn(5))
	}
	t := f([]string{"f", "g"}[r.Intn(2)])
	for range r.Intn(4) {
		t.Args = append(t.Args, anyTerm(r, depth-1))
	}
	return t
}

// anySubst: a right substitution of few variables.
func anySubst(r *rand.Rand) []api.Bind {
	var s []api.Bind
	for number := range 6 {
		if t := anyTerm(r, 1+r.Intn(3)); r.Intn(2) == 0 && text(t) != text(v(number)) {
			s = append(s, bind(number, t))
		}
	}
	return s
}

// text: a term as a text that no other one has.
func text(t api.Term) string {
	var b strings.Builder
	fmt.Fprintf(&b, "%d %q(", t.Var, t.Fn)
	for _, arg := range t.Args {
		b.WriteString(text(arg) + ",")
	}
	return b.String() + ")"
}

// texts: binds as a text that no other ones have.
func texts(s []api.Bind) string {
	var b strings.Builder
	for _, x := range s {
		fmt.Fprintf(&b, "%d: %s; ", x.Var, text(x.T))
	}
	return b.String()
}

// plainApply: as the chapter tells it, with no eye on limits.
func plainApply(s []api.Bind, t api.Term) api.Term {
	for _, b := range s {
		if t.Fn == "" && t.Var == b.Var {
			return b.T
		}
	}
	var args []api.Term
	for _, arg := range t.Args {
		args = append(args, plainApply(s, arg))
	}
	return api.Term{Var: t.Var, Fn: t.Fn, Args: args}
}

// plainCompose: of each variable from 0 to below limit what becomes of it.
func plainCompose(s, r []api.Bind, limit int) []api.Bind {
	var both []api.Bind
	for number := range limit {
		if t := plainApply(r, plainApply(s, v(number))); text(t) != text(v(number)) {
			both = append(both, bind(number, t))
		}
	}
	return both
}

// P401: what is a substitution, at each edge, and what is none.
func TestRight(t *testing.T) {
	for _, good := range [][]api.Bind{
		nil, {}, binds(bind(0, f("a"))), binds(bind(0, v(1))), binds(bind(1, v(0))), binds(bind(0, v(1)), bind(1, v(0))), binds(bind(0, f("f", v(0)))),
		binds(bind(0, f("a")), bind(1, f("a")), bind(api.MaxVar-1, f("a"))), binds(bind(api.MaxVar-1, v(api.MaxVar-2))), binds(bind(api.MaxVar-2, v(api.MaxVar-1))),
		binds(bind(3, chain(api.MaxDepth, v(3))), bind(9, flat(api.MaxNodes, v(9)))),
		row(0, api.MaxNodes, f("a")), row(api.MaxVar-api.MaxNodes, api.MaxNodes, v(0)),
	} {
		if got := Right(good); got != api.OK {
			t.Errorf("Right(%.200s): %d", texts(good), got)
		}
	}
	for _, bad := range wrongSubsts() {
		if got := Right(bad); got != api.ErrArg {
			t.Errorf("Right(%.200s): %d, not %d", texts(bad), got, api.ErrArg)
		}
	}
}

// P401: the chapter's example, variables at all places, all at once, and what is not bound.
func TestApply(t *testing.T) {
	s := binds(bind(0, f("f", v(1))), bind(1, v(0)), bind(4, f("a")), bind(api.MaxVar-1, f("g", v(api.MaxVar-1), v(2))))
	cases := []struct {
		s        []api.Bind
		in, want api.Term
	}{
		{s, f("g", v(0)), f("g", f("f", v(1)))},
		{s, v(0), f("f", v(1))}, {s, v(1), v(0)}, {s, v(2), v(2)}, {s, v(3), v(3)}, {s, v(5), v(5)}, {s, v(4), f("a")}, {s, f("b"), f("b")},
		{s, f("h", v(1), v(0), f("k", v(4), v(7)), v(1)), f("h", v(0), f("f", v(1)), f("k", f("a"), v(7)), v(0))},
		{s, v(api.MaxVar - 1), f("g", v(api.MaxVar-1), v(2))}, {s, v(api.MaxVar - 2), v(api.MaxVar - 2)},
		{nil, f("g", v(0), f("a")), f("g", v(0), f("a"))}, {binds(), v(9), v(9)},
		{binds(bind(0, v(1)), bind(1, v(0))), f("g", v(0), v(1), v(0)), f("g", v(1), v(0), v(1))},
		{binds(bind(0, f("f", v(0)))), f("g", v(0), f("f", v(0))), f("g", f("f", v(0)), f("f", f("f", v(0))))},
		{binds(bind(0, f("a"))), f("X0", f("0")), f("X0", f("0"))},
	}
	for _, c := range cases {
		if got, errno := Apply(c.s, c.in); errno != api.OK || text(got) != text(c.want) {
			t.Errorf("Apply(%s, %s): %s, %d, not %s", texts(c.s), text(c.in), text(got), errno, text(c.want))
		}
	}
}

// P401: which error, from both sides of each limit, and the first one where several apply.
func TestApplyErrors(t *testing.T) {
	deep, big := chain(api.MaxDepth, v(1)), flat(api.MaxNodes, v(1))
	cases := []struct {
		what string
		s    []api.Bind
		in   api.Term
		want api.Errno
	}{
		{"as deep as may be", binds(bind(0, chain(30, v(0)))), chain(31, v(0)), api.OK},
		{"one deeper", binds(bind(0, chain(31, v(0)))), chain(31, v(0)), api.ErrDeep},
		{"deepest bind at the top", binds(bind(1, chain(api.MaxDepth, f("a")))), v(1), api.OK},
		{"deepest bind below a function", binds(bind(1, chain(api.MaxDepth, f("a")))), f("g", f("b"), v(1), f("b")), api.ErrDeep},
		{"deepest term", binds(bind(1, f("a"))), deep, api.OK},
		{"deepest term and one more", binds(bind(1, f("f", f("a")))), deep, api.ErrDeep},
		{"deep where nothing is bound", binds(bind(0, deep)), deep, api.OK},
		{"as great as may be", binds(bind(0, flat(999, f("a")))), f("g", v(0), v(0), v(0), v(0), f("b"), v(2), v(3)), api.OK},
		{"one greater", binds(bind(0, flat(999, f("a")))), f("g", v(0), v(0), v(0), v(0), f("b"), v(2), v(3), f("c")), api.ErrBig},
		{"greatest bind at the top", binds(bind(1, flat(api.MaxNodes, f("a")))), v(1), api.OK},
		{"greatest bind below a function", binds(bind(1, flat(api.MaxNodes, f("a")))), f("g", v(1)), api.ErrBig},
		{"greatest term", binds(bind(1, v(2))), big, api.OK},
		{"greatest term and more", binds(bind(1, f("f", v(2)))), big, api.ErrBig},
		{"great where nothing is bound", binds(bind(0, big)), big, api.OK},
		{"greatest within greatest", binds(bind(1, big)), big, api.ErrBig},
		{"too great, then too deep", binds(bind(0, chain(api.MaxDepth, v(0))), bind(1, big)), f("g", v(1), v(1), v(0)), api.ErrDeep},
		{"too deep, then too great", binds(bind(0, chain(api.MaxDepth, v(0))), bind(1, big)), f("g", v(0), v(1), v(1)), api.ErrDeep},
	}
	for _, c := range cases {
		got, errno := Apply(c.s, c.in)
		if errno != c.want {
			t.Errorf("%s: %d, not %d", c.what, errno, c.want)
		}
		want := api.Term{}
		if errno == api.OK {
			want = plainApply(c.s, c.in)
		}
		if !term.Same(got, want) {
			t.Errorf("%s: another term", c.what)
		}
	}
	tooDeep := binds(bind(1, f("f", f("a"))))
	for _, bad := range wrongSubsts() {
		if got, errno := Apply(bad, f("g", v(9))); errno != api.ErrArg || text(got) != text(api.Term{}) {
			t.Errorf("Apply(%.200s, ..): %s, %d", texts(bad), text(got), errno)
		}
		if _, errno := Apply(append(slices.Clone(bad), tooDeep...), deep); errno != api.ErrArg {
			t.Errorf("Apply(%.200s, ..) where it would be too deep: %d", texts(bad), errno)
		}
	}
	for _, bad := range wrongs() {
		if got, errno := Apply(nil, bad); errno != api.ErrArg || text(got) != text(api.Term{}) {
			t.Errorf("Apply(.., %.200s): %s, %d", text(bad), text(got), errno)
		}
		if _, errno := Apply(tooDeep, f("g", deep, bad)); errno != api.ErrArg {
			t.Errorf("Apply(.., %.200s) where it would be too deep: %d", text(bad), errno)
		}
	}
}

// P402: the chapter's example, which T has r applied, what becomes itself, and the order.
func TestCompose(t *testing.T) {
	a, b := f("a"), f("b")
	cases := []struct{ s, r, want []api.Bind }{
		{binds(bind(0, v(1))), binds(bind(1, a)), binds(bind(0, a), bind(1, a))},
		{nil, nil, nil}, {nil, binds(bind(3, f("f", v(0)))), binds(bind(3, f("f", v(0))))}, {binds(bind(3, f("f", v(0)))), binds(), binds(bind(3, f("f", v(0))))},
		{binds(bind(0, a)), binds(bind(0, b)), binds(bind(0, a))},
		{binds(bind(0, f("f", v(0)))), binds(bind(0, b)), binds(bind(0, f("f", b)))},
		{binds(bind(0, f("f", v(0)))), binds(bind(0, f("g", v(0)))), binds(bind(0, f("f", f("g", v(0)))))},
		{binds(bind(0, v(1))), binds(bind(1, v(0))), binds(bind(1, v(0)))},
		{binds(bind(1, v(0))), binds(bind(0, v(1))), binds(bind(0, v(1)))},
		{binds(bind(0, v(1)), bind(1, v(0))), binds(bind(0, v(1)), bind(1, v(0))), nil},
		{binds(bind(0, v(1)), bind(1, v(2)), bind(2, v(0))), binds(bind(0, v(1)), bind(1, v(2)), bind(2, v(0))), binds(bind(0, v(2)), bind(1, v(0)), bind(2, v(1)))},
		{binds(bind(0, f("f", v(1)))), binds(bind(1, v(0))), binds(bind(0, f("f", v(0))), bind(1, v(0)))},
		{binds(bind(1, a), bind(5, v(6))), binds(bind(0, b), bind(3, b), bind(5, b), bind(6, v(2)), bind(9, b)),
			binds(bind(0, b), bind(1, a), bind(3, b), bind(5, v(2)), bind(6, v(2)), bind(9, b))},
		{binds(bind(api.MaxVar-1, v(0))), binds(bind(0, v(api.MaxVar-1))), binds(bind(0, v(api.MaxVar-1)))},
	}
	for _, c := range cases {
		if got, errno := Compose(c.s, c.r); errno != api.OK || texts(got) != texts(c.want) {
			t.Errorf("Compose(%s, %s): %s, %d, not %s", texts(c.s), texts(c.r), texts(got), errno, texts(c.want))
		}
	}
}

// P402: which error, the first T's where several would have one, and both sides of the limit of binds.
func TestComposeErrors(t *testing.T) {
	deep, big := chain(api.MaxDepth, v(1)), flat(api.MaxNodes, v(2))
	grow := binds(bind(1, f("f", v(9))), bind(2, f("f", v(9))))
	half := api.MaxNodes / 2
	swapped := append(binds(bind(0, v(1))), row(2, half, f("a"))...)
	cases := []struct {
		what string
		s, r []api.Bind
		want api.Errno
	}{
		{"deepest", binds(bind(0, deep)), binds(bind(1, f("a"))), api.OK},
		{"too deep", binds(bind(0, deep)), grow, api.ErrDeep},
		{"greatest", binds(bind(0, big)), binds(bind(2, f("a"))), api.OK},
		{"too great", binds(bind(0, big)), grow, api.ErrBig},
		{"too deep first", binds(bind(0, f("a")), bind(3, deep), bind(4, big)), grow, api.ErrDeep},
		{"too great first", binds(bind(0, f("a")), bind(3, big), bind(4, deep)), grow, api.ErrBig},
		{"too deep at last", binds(bind(3, f("a")), bind(4, v(1)), bind(5, deep)), grow, api.ErrDeep},
		{"as many as may be", row(0, half, f("a")), row(half, half, f("b")), api.OK},
		{"one more", row(0, half, f("a")), row(half, half+1, f("b")), api.ErrBig},
		{"twice as many", row(0, api.MaxNodes, f("a")), row(api.MaxNodes, api.MaxNodes, f("b")), api.ErrBig},
		{"as many, of the same variables", row(0, api.MaxNodes, f("a")), row(0, api.MaxNodes, f("b")), api.OK},
		{"as many, beside one that becomes itself", swapped, append(binds(bind(1, v(0))), row(half+2, half-1, f("b"))...), api.OK},
		{"one more, beside one that becomes itself", swapped, append(binds(bind(1, v(0))), row(half+2, half, f("b"))...), api.ErrBig},
		{"too many and too deep", append(binds(bind(0, deep)), row(10, api.MaxNodes-1, f("a"))...), append(slices.Clone(grow), row(api.MaxNodes+20, half, f("b"))...), api.ErrDeep},
		{"too many, each far too great", row(10, api.MaxNodes, big), row(2, 1, flat(api.MaxNodes, v(7))), api.ErrBig},
	}
	for _, c := range cases {
		got, errno := Compose(c.s, c.r)
		if errno != c.want {
			t.Errorf("%s: %d, not %d", c.what, errno, c.want)
		}
		var want []api.Bind
		if errno == api.OK {
			want = plainCompose(c.s, c.r, 2*api.MaxNodes)
		}
		if texts(got) != texts(want) {
			t.Errorf("%s: other binds, %d, not %d", c.what, len(got), len(want))
		}
	}
	for _, bad := range wrongSubsts() {
		for _, other := range [][]api.Bind{nil, grow, binds(bind(0, deep)), bad} {
			if got, errno := Compose(bad, other); errno != api.ErrArg || got != nil {
				t.Errorf("Compose(%.200s, ..): %.200s, %d", texts(bad), texts(got), errno)
			}
			if got, errno := Compose(other, bad); errno != api.ErrArg || got != nil {
				t.Errorf("Compose(.., %.200s): %.200s, %d", texts(bad), texts(got), errno)
			}
		}
	}
}

// P402: many binds, many variables in each: r is looked through once, not for each T anew.
func TestComposeGreat(t *testing.T) {
	s, r := row(10, 2000, flat(200, v(3))), append(row(3, 1, v(4)), row(5000, 1500, flat(400, v(1)))...)
	got, errno := Compose(s, r)
	if errno != api.OK || len(got) != 3501 || Right(got) != api.OK {
		t.Fatalf("Compose: %d binds, %d", len(got), errno)
	}
	for i, b := range got[1:2001] {
		if b.Var != 10+i || !term.Same(b.T, flat(200, v(4))) {
			t.Fatalf("bind %d: %d", i, b.Var)
		}
	}
}

// P403: numbers at each edge, up and down, and where there is no variable.
func TestShift(t *testing.T) {
	last := api.MaxVar - 1
	cases := []struct {
		in   api.Term
		by   int
		want api.Term
	}{
		{v(4), 3, v(7)}, {v(4), 0, v(4)}, {v(4), -4, v(0)}, {v(0), 0, v(0)}, {v(0), last, v(last)}, {v(last), -last, v(0)}, {v(last), 0, v(last)},
		{f("f", v(1), f("g", v(9), f("a")), v(1)), 10, f("f", v(11), f("g", v(19), f("a")), v(11))},
		{f("f", v(1), v(5)), -1, f("f", v(0), v(4))}, {f("f", v(1), v(5)), last - 5, f("f", v(last-4), v(last))},
		{f("a"), math.MaxInt, f("a")}, {f("g", f("a"), f("b")), math.MinInt, f("g", f("a"), f("b"))},
		{chain(api.MaxDepth, v(2)), 5, chain(api.MaxDepth, v(7))}, {flat(api.MaxNodes, v(2)), -2, flat(api.MaxNodes, v(0))},
	}
	for _, c := range cases {
		if got, errno := Shift(c.in, c.by); errno != api.OK || text(got) != text(c.want) {
			t.Errorf("Shift(%.200s, %d): %.200s, %d", text(c.in), c.by, text(got), errno)
		}
	}
	wrong := []struct {
		in api.Term
		by int
	}{
		{v(4), -5}, {v(0), -1}, {v(0), api.MaxVar}, {v(1), last}, {v(last), 1}, {v(last), -api.MaxVar},
		{v(0), math.MaxInt}, {v(1), math.MaxInt}, {v(last), math.MaxInt}, {v(0), math.MinInt}, {v(1), math.MinInt}, {v(last), math.MinInt},
		{f("f", v(5), v(1)), -2}, {f("f", v(1), v(5)), -2}, {f("f", v(1), f("g", v(5), f("a"))), last - 4}, {f("f", v(5), f("g", v(1), f("a"))), last - 4},
	}
	for _, c := range wrong {
		if got, errno := Shift(c.in, c.by); errno != api.ErrArg || text(got) != text(api.Term{}) {
			t.Errorf("Shift(%s, %d): %s, %d", text(c.in), c.by, text(got), errno)
		}
	}
	for _, bad := range wrongs() {
		for _, by := range []int{0, 1, -1, api.MaxVar, -api.MaxVar, math.MaxInt, math.MinInt} {
			if got, errno := Shift(bad, by); errno != api.ErrArg || text(got) != text(api.Term{}) {
				t.Errorf("Shift(%.200s, %d): %s, %d", text(bad), by, text(got), errno)
			}
		}
	}
}

// P403: in the order met, without what stays, rising; numbers that can't be and parts of no right shape.
func TestRename(t *testing.T) {
	last := api.MaxVar - 1
	odd := f("f", api.Term{Var: 7, Fn: "g", Args: []api.Term{v(3)}}, f(strings.Repeat("n", 1000), v(2)), f("h", append(many(20, v(8)), v(1))...))
	cases := []struct {
		what string
		in   []api.Term
		want []api.Bind
	}{
		{"nothing", nil, nil}, {"no variable", []api.Term{f("a"), f("g", f("b"))}, nil},
		{"two", []api.Term{v(5), v(0)}, binds(bind(0, v(1)), bind(5, v(0)))},
		{"all stay", []api.Term{f("f", v(0), v(1)), v(2), v(0)}, nil},
		{"one stays", []api.Term{v(4), v(1), v(0)}, binds(bind(0, v(2)), bind(4, v(0)))},
		{"some stay", []api.Term{v(4), v(1), v(2), v(0)}, binds(bind(0, v(3)), bind(4, v(0)))},
		{"met again", []api.Term{f("f", v(9), v(9), f("g", v(2), v(9))), v(2), v(4), v(9)}, binds(bind(2, v(1)), bind(4, v(2)), bind(9, v(0)))},
		{"within, from the left", []api.Term{f("f", f("g", v(8), f("h", v(6))), v(7)), f("g", v(5))}, binds(bind(5, v(3)), bind(6, v(1)), bind(7, v(2)), bind(8, v(0)))},
		{"last numbers", []api.Term{v(last), v(last - 1)}, binds(bind(last-1, v(1)), bind(last, v(0)))},
		{"passed over", []api.Term{v(-1), v(9), v(api.MaxVar), v(math.MinInt), v(8), v(math.MaxInt), v(7)}, binds(bind(7, v(2)), bind(8, v(1)), bind(9, v(0)))},
		{"odd parts", []api.Term{odd}, binds(bind(1, v(3)), bind(2, v(1)), bind(3, v(0)), bind(8, v(2)))},
		{"a variable with arguments", []api.Term{{Var: 6, Args: []api.Term{v(4), f("f", v(6))}}, v(2)}, binds(bind(4, v(1)), bind(6, v(0)))},
		{"arguments of one passed over", []api.Term{{Var: -6, Args: []api.Term{v(4)}}, v(2)}, binds(bind(2, v(1)), bind(4, v(0)))},
		{"far down", []api.Term{chain(1<<16, v(3)), v(1<<16 - 1)}, binds(bind(3, v(0)), bind(1<<16-1, v(1)))},
	}
	for _, c := range cases {
		if got := Rename(c.in); texts(got) != texts(c.want) {
			t.Errorf("%s: %s, not %s", c.what, texts(got), texts(c.want))
		}
	}
}

// P403: no more than MaxNodes binds, the first ones met; those that stay are no binds, but have their numbers.
func TestRenameMany(t *testing.T) {
	falling := func(from, count int) (l []api.Term) {
		for i := range count {
			l = append(l, v(from-i))
		}
		return l
	}
	for _, count := range []int{api.MaxNodes - 1, api.MaxNodes, api.MaxNodes + 1, 3 * api.MaxNodes} {
		got := Rename(falling(100000, count))
		if want := min(count, api.MaxNodes); len(got) != want || Right(got) != api.OK {
			t.Fatalf("%d variables: %d binds, not %d", count, len(got), want)
		}
		for i, b := range got {
			if want := len(got) - 1 - i; b.Var != 100000-want || b.T.Var != want || b.T.Fn != "" {
				t.Fatalf("%d variables: %d is bound to %s", count, b.Var, text(b.T))
			}
		}
	}
	stay := falling(0, 1)
	for number := 1; number < 5000; number++ {
		stay = append(stay, v(number))
	}
	got := Rename(append(stay, falling(100000, api.MaxNodes+5)...))
	if len(got) != api.MaxNodes || Right(got) != api.OK || texts(got[:1]) != texts(binds(bind(100001-api.MaxNodes, v(4999+api.MaxNodes)))) || texts(got[api.MaxNodes-1:]) != texts(binds(bind(100000, v(5000)))) {
		t.Errorf("behind those that stay: %d binds, %s", len(got), texts(got[:1]))
	}
}

// P403: of any terms: the numbers come in order from the left, and the terms renamed have the same shape.
func TestRenameAny(t *testing.T) {
	r := rand.New(rand.NewSource(4))
	for range 5000 {
		l := []api.Term{anyTerm(r, 3), anyTerm(r, 3)}
		s := Rename(l)
		if Right(s) != api.OK {
			t.Fatalf("Rename(%s, %s): %s", text(l[0]), text(l[1]), texts(s))
		}
		whole := f("f", l...)
		renamed, errno := Apply(s, whole)
		if errno != api.OK || len(term.Vars(renamed)) != len(term.Vars(whole)) || len(Rename([]api.Term{renamed})) != 0 {
			t.Fatalf("Rename(%s, %s): %s, %s", text(l[0]), text(l[1]), texts(s), text(renamed))
		}
	}
}

// P404: just the same binds, and none that is not right.
func TestSame(t *testing.T) {
	a := f("a")
	list := [][]api.Bind{
		nil, binds(bind(0, a)), binds(bind(1, a)), binds(bind(0, f("b"))), binds(bind(0, f("a", a))), binds(bind(0, v(1))), binds(bind(1, v(0))), binds(bind(0, v(2))),
		binds(bind(0, a), bind(1, a)), binds(bind(0, a), bind(2, a)), binds(bind(0, a), bind(1, v(0))), binds(bind(0, a), bind(1, a), bind(2, a)),
		binds(bind(0, f("f", v(1), v(2)))), binds(bind(0, f("f", v(2), v(1)))), row(0, api.MaxNodes, a), row(1, api.MaxNodes, a),
	}
	for i, s := range list {
		for k, r := range list {
			if got := Same(s, rebound(r, itself)); got != (i == k) {
				t.Errorf("Same(%.200s, %.200s): %v", texts(s), texts(r), got)
			}
		}
	}
	if !Same(nil, binds()) || !Same(binds(bind(0, a)), binds(bind(0, api.Term{Fn: "a", Args: []api.Term{}}))) {
		t.Error("no list is not the same as an empty one")
	}
	for _, bad := range wrongSubsts() {
		if Same(bad, bad) || Same(bad, nil) || Same(nil, bad) {
			t.Errorf("Same of %.200s", texts(bad))
		}
	}
}

// P405: what is composed does what both do behind each other; each is held against the plain words too (P401, P402, P404).
func TestLaws(t *testing.T) {
	r := rand.New(rand.NewSource(5))
	same, itself := 0, 0
	for range 20000 {
		s, then, in := anySubst(r), anySubst(r), anyTerm(r, 4)
		both, errno := Compose(s, then)
		if want := plainCompose(s, then, 6); errno != api.OK || texts(both) != texts(want) || Right(both) != api.OK {
			t.Fatalf("Compose(%s, %s): %s, %d", texts(s), texts(then), texts(both), errno)
		}
		first, _ := Apply(s, in)
		second, _ := Apply(then, first)
		if text(first) != text(plainApply(s, in)) {
			t.Fatalf("Apply(%s, %s): %s", texts(s), text(in), text(first))
		}
		if got, errno := Apply(both, in); errno != api.OK || text(got) != text(second) {
			t.Fatalf("Apply of Compose(%s, %s) to %s: %s, not %s", texts(s), texts(then), text(in), text(got), text(second))
		}
		if Same(s, then) != (texts(s) == texts(then)) {
			t.Fatalf("Same(%s, %s)", texts(s), texts(then))
		}
		if Same(s, then) {
			same++
		}
		if all := len(s) + len(besides(s, then)); len(both) < all {
			itself++
		}
	}
	if same < 10 || itself < 100 {
		t.Errorf("only %d were the same, and in %d a variable became itself", same, itself)
	}
}

// P405: where all are told, also at the limits; and what binds no variable of the term leaves it.
func TestLawsAtLimits(t *testing.T) {
	in, s, then := f("g", v(0), v(3)), binds(bind(0, chain(30, v(1)))), binds(bind(1, chain(30, v(2))))
	both, errno := Compose(s, then)
	once, errno1 := Apply(both, in)
	first, _ := Apply(s, in)
	second, errno2 := Apply(then, first)
	if errno != api.OK || errno1 != api.OK || errno2 != api.OK || term.Depth(once) != api.MaxDepth || !term.Same(once, second) {
		t.Errorf("at the depth's limit: %d, %d, %d, %d", errno, errno1, errno2, term.Depth(once))
	}
	for _, in := range []api.Term{f("a"), v(1), f("f", v(1), f("g", v(5))), chain(api.MaxDepth, v(7)), flat(api.MaxNodes, v(7)), flat(api.MaxNodes, f("a"))} {
		away := binds(bind(0, f("a")), bind(2, v(7)), bind(4, chain(api.MaxDepth, v(1))), bind(6, flat(api.MaxNodes, v(5))), bind(8, v(0)))
		if got, errno := Apply(away, in); errno != api.OK || !term.Same(got, in) {
			t.Errorf("Apply to %.200s: %.200s, %d", text(in), text(got), errno)
		}
	}
}

// roomy: a copy of the term whose lists have spare room with something in it.
func roomy(t api.Term) api.Term {
	room := make([]api.Term, 0, len(t.Args)+2)
	for _, arg := range t.Args {
		room = append(room, roomy(arg))
	}
	copy(room[len(room):cap(room)], many(2, f("spare")))
	return api.Term{Var: t.Var, Fn: t.Fn, Args: room}
}

// untouched: is the term still as roomy made it of want?
func untouched(t, want api.Term) bool {
	all := t.Args[:cap(t.Args)]
	if t.Var != want.Var || t.Fn != want.Fn || len(all) != len(want.Args)+2 || text(all[len(all)-2]) != text(f("spare")) || text(all[len(all)-1]) != text(f("spare")) {
		return false
	}
	for i, arg := range want.Args {
		if !untouched(all[i], arg) {
			return false
		}
	}
	return true
}

// roomyBinds, untouchedBinds: the same of binds.
func roomyBinds(s []api.Bind) []api.Bind {
	room := make([]api.Bind, 0, len(s)+2)
	for _, b := range s {
		room = append(room, bind(b.Var, roomy(b.T)))
	}
	copy(room[len(room):cap(room)], row(77, 2, f("spare")))
	return room
}

func untouchedBinds(s, want []api.Bind) bool {
	all := s[:cap(s)]
	if len(all) != len(want)+2 || texts(all[len(want):]) != texts(row(77, 2, f("spare"))) {
		return false
	}
	for i, b := range want {
		if all[i].Var != b.Var || !untouched(all[i].T, b.T) {
			return false
		}
	}
	return true
}

// spoil: writes over all lists of the term, their spare room too, and tells whether one of them was written over before.
func spoil(t api.Term) (twice bool) {
	all := t.Args[:cap(t.Args)]
	for i := range all {
		twice = twice || all[i].Fn == "spoilt" || spoil(all[i])
		all[i] = f("spoilt")
	}
	return twice
}

// Rule 4: what is handed in is not changed, and what is handed out shares no memory with it, nor with another part of the answer.
func TestApart(t *testing.T) {
	plainS, plainR := binds(bind(0, f("f", v(1), f("a"))), bind(1, v(3)), bind(2, f("g", v(5)))), binds(bind(1, f("h", f("b"))), bind(3, f("k", f("c"), v(8))), bind(7, f("k", v(1))))
	plainT := f("t", v(0), f("u", v(0), v(2)), v(2), f("a"), f("w", f("a")))
	for range 2 {
		s, r, in := roomyBinds(plainS), roomyBinds(plainR), roomy(plainT)
		list := append(make([]api.Term, 0, 3), in, s[0].T)
		applied, errno := Apply(s, in)
		both, errno2 := Compose(s, r)
		shifted, errno3 := Shift(in, 4)
		renamed := Rename(list)
		if errno != api.OK || errno2 != api.OK || errno3 != api.OK || !Same(s, s) || Same(s, r) || Right(r) != api.OK {
			t.Fatalf("%d, %d, %d", errno, errno2, errno3)
		}
		if spoil(applied) || spoil(shifted) {
			t.Error("parts of one answer share memory")
		}
		for _, answer := range [][]api.Bind{both, renamed} {
			for i := range answer {
				if spoil(answer[i].T) {
					t.Error("binds of one answer share memory")
				}
			}
			copy(answer[:cap(answer)], row(50, cap(answer), f("spoilt")))
		}
		if !untouchedBinds(s, plainS) || !untouchedBinds(r, plainR) || !untouched(in, plainT) || text(list[:3][2]) != text(api.Term{}) {
			t.Fatalf("what was handed in is changed: %s, %s, %s", texts(s), texts(r), text(in))
		}
	}
}
