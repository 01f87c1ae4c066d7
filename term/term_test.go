package term

import (
	"cmp"
	"fmt"
	"math"
	"math/rand"
	"slices"
	"strings"
	"testing"

	"assize/api"
)

func v(number int) api.Term { return api.Term{Var: number} }

func f(name string, args ...api.Term) api.Term { return api.Term{Fn: name, Args: args} }

// chain: f(f(..(last))), so many parts within one another.
func chain(depth int, last api.Term) api.Term {
	t := last
	for range depth - 1 {
		t = f("f", t)
	}
	return t
}

// flat: of so many parts, no deeper than it must be.
func flat(size int) api.Term {
	if size == 1 {
		return f("a")
	}
	count := min(api.MaxArgs, size-1)
	t := f("f")
	for i := range count {
		share := (size - 1) / count
		if i < (size-1)%count {
			share++
		}
		t.Args = append(t.Args, flat(share))
	}
	return t
}

// many: so many copies of t.
func many(count int, t api.Term) []api.Term { return slices.Repeat([]api.Term{t}, count) }

// anyTerm: a right term of few names, so that equal ones come often.
func anyTerm(r *rand.Rand, depth int) api.Term {
	if r.Intn(3) == 0 {
		return v(r.Intn(4))
	}
	t := f([]string{"a", "b", "f", "ff", "Z", "\xff"}[r.Intn(6)])
	if depth > 1 {
		for range r.Intn(4) {
			t.Args = append(t.Args, anyTerm(r, depth-1))
		}
	}
	return t
}

// wrongs: terms with a part of no right shape, each in another way.
func wrongs() []api.Term {
	long := strings.Repeat("n", api.MaxName+1)
	return []api.Term{
		v(-1), v(api.MaxVar), v(math.MinInt), v(math.MaxInt),
		{Args: many(1, f("a"))}, {Var: 3, Args: many(2, v(1))},
		{Var: 1, Fn: "a"}, {Var: -1, Fn: "a"}, {Var: math.MaxInt, Fn: "f", Args: many(1, v(0))},
		f(long), f(strings.Repeat(long, 100)), f("f", many(api.MaxArgs+1, v(0))...), f("f", many(1000, f("a"))...),
	}
}

// text: a term as a text that no other one has.
func text(t api.Term) string {
	var b strings.Builder
	fmt.Fprintf(&b, "%d %q(", t.Var, t.Fn)
	for _, arg := range t.Args {
		b.WriteString(text(arg) + ",")
	}
	return b.String() + ")"
}

// spoil: writes over all lists of the term, their spare room too.
func spoil(t api.Term) {
	all := t.Args[:cap(t.Args)]
	for i := range all {
		spoil(all[i])
		all[i] = f("spoilt", v(77))
	}
}

// P301: each bound of the shape, from both sides.
func TestRightShape(t *testing.T) {
	name := strings.Repeat("n", api.MaxName)
	for _, good := range []api.Term{
		v(0), v(1), v(api.MaxVar - 1), {Args: []api.Term{}}, f("a"), f(name), f("\x00"), f("\xff\xfe"), f(" "), f("$true"), f("X"),
		f("f", many(api.MaxArgs, v(5))...), f(name, f("f", many(api.MaxArgs, f(name))...), v(api.MaxVar-1)),
	} {
		if got := Right(good); got != api.OK {
			t.Errorf("Right(%.200s): %d", text(good), got)
		}
	}
	for _, bad := range wrongs() {
		for _, whole := range []api.Term{bad, f("f", bad), f("f", v(0), f("g", f("a"), bad), f("b")), chain(api.MaxDepth, bad)} {
			if got := Right(whole); got != api.ErrArg {
				t.Errorf("Right(%.200s): %d, not %d", text(whole), got, api.ErrArg)
			}
		}
	}
}

// P301: at the limits of depth and size, one beyond, and which error comes first.
func TestRightLimits(t *testing.T) {
	bad := v(-1)
	deep := chain(api.MaxDepth+1, f("a"))
	cases := []struct {
		what string
		in   api.Term
		want api.Errno
	}{
		{"deepest", chain(api.MaxDepth, f("a")), api.OK},
		{"deepest, a variable last", chain(api.MaxDepth, v(0)), api.OK},
		{"deepest at the right", f("f", f("a"), chain(api.MaxDepth-1, v(0)), f("b")), api.OK},
		{"too deep", deep, api.ErrDeep},
		{"too deep at the right", f("f", f("a"), chain(api.MaxDepth, v(0)), f("b")), api.ErrDeep},
		{"far too deep", chain(1<<16, f("a")), api.ErrDeep},
		{"greatest", flat(api.MaxNodes), api.OK},
		{"too great", flat(api.MaxNodes + 1), api.ErrBig},
		{"far too great", flat(100 * api.MaxNodes), api.ErrBig},
		{"greatest and too deep", f("f", deep, flat(api.MaxNodes-api.MaxDepth-2)), api.ErrDeep},
		{"too great and too deep", f("f", flat(api.MaxNodes), deep), api.ErrDeep},
		{"too deep, then wrong", f("f", deep, bad), api.ErrArg},
		{"too deep, wrong at its end", chain(api.MaxDepth+1, bad), api.ErrArg},
		{"far too deep, wrong at its end", chain(1<<16, bad), api.ErrArg},
		{"too great, then wrong", f("f", flat(api.MaxNodes), bad), api.ErrArg},
		{"too great and too deep, then wrong", f("f", flat(api.MaxNodes), deep, bad), api.ErrArg},
	}
	for _, c := range cases {
		if got := Right(c.in); got != c.want {
			t.Errorf("%s: %d, not %d", c.what, got, c.want)
		}
	}
}

// P301: Size, Depth and Vars, of terms that are not right too.
func TestSizeDepthVars(t *testing.T) {
	cases := []struct {
		in          api.Term
		size, depth int
		vars        []int
	}{
		{v(0), 1, 1, []int{0}}, {f("a"), 1, 1, nil}, {v(api.MaxVar - 1), 1, 1, []int{api.MaxVar - 1}},
		{f("f", f("a"), v(3)), 3, 2, []int{3}},
		{f("f", v(9), f("g", v(2), f("h", v(9), v(0))), v(2)), 8, 4, []int{0, 2, 9}},
		{f("f", v(10), v(9), v(8), v(100)), 5, 2, []int{8, 9, 10, 100}},
		{f("f", f("g", f("h", f("a"))), f("b")), 5, 4, nil},
		{f("f", f("b"), f("g", f("h", f("a")))), 5, 4, nil},
		{api.Term{}, 1, 1, []int{0}}, {v(-7), 1, 1, []int{-7}}, {api.Term{Var: 4, Fn: "a"}, 1, 1, nil},
		{f("f", v(math.MaxInt), v(math.MinInt), v(0)), 4, 2, []int{math.MinInt, 0, math.MaxInt}},
		{f("f", api.Term{Var: 5, Fn: "g", Args: many(2, v(6))}), 4, 3, []int{6}},
		{api.Term{Args: []api.Term{v(1), f("g", v(0))}}, 4, 3, []int{0, 1}},
		{f("f", many(100000, v(1))...), 100001, 2, []int{1}},
		{chain(1<<16, v(1)), 1 << 16, 1 << 16, []int{1}},
		{flat(4001), 4001, 4, nil},
	}
	for _, c := range cases {
		if got := Size(c.in); got != c.size {
			t.Errorf("Size(%.200s): %d, not %d", text(c.in), got, c.size)
		}
		if got := Depth(c.in); got != c.depth {
			t.Errorf("Depth(%.200s): %d, not %d", text(c.in), got, c.depth)
		}
		if got := Vars(c.in); !slices.Equal(got, c.vars) {
			t.Errorf("Vars(%.200s): %v, not %v", text(c.in), got, c.vars)
		}
	}
}

// P301: no two of these are the same, in whatever they differ, and each is the same as a copy of it.
func TestSame(t *testing.T) {
	list := append(wrongs(), v(0), v(1), f("a"), f("A"), f("aa"), f("a\x00"), f("b"), api.Term{Var: 2, Fn: "b"},
		f("f", v(0)), f("f", v(1)), f("f", f("a")), f("g", f("a")), f("f", f("a"), f("a")), f("f", f("a"), f("b")), f("f", f("b"), f("a")),
		f("f", f("f", f("a"))), f("f", f("f", f("b"))), f("f", f("f", f("a")), f("a")), f("f", f("f", f("a"), f("a"))))
	for i, a := range list {
		for k, b := range list {
			if got := Same(a, clone(b)); got != (i == k) {
				t.Errorf("Same(%.200s, %.200s): %v", text(a), text(b), got)
			}
		}
	}
	if !Same(f("a"), api.Term{Fn: "a", Args: []api.Term{}}) || !Same(api.Term{Args: []api.Term{}}, v(0)) {
		t.Error("Same: no list is not the same as an empty one")
	}
	if !Same(chain(1<<16, v(1)), chain(1<<16, v(1))) || Same(chain(1<<16, v(1)), chain(1<<16, v(2))) {
		t.Error("Same of deep terms")
	}
}

// P302: a list in the chapter's order, each held against each.
func TestCmp(t *testing.T) {
	list := []api.Term{
		v(0), v(1), v(9), v(10), v(api.MaxVar - 1),
		f("\x00"), f("$true"), f("Z"), f("a"),
		f("a", v(0)), f("a", v(1)), f("a", f("a")), f("a", f("a", v(0))), f("a", f("a", f("a"))), f("a", f("b")),
		f("a", v(0), v(0)), f("a", v(0), v(7)), f("a", v(0), f("z")), f("a", v(1), v(0)),
		f("a", f("a"), f("b", v(2))), f("a", f("a"), f("b", v(3))), f("a", f("b"), v(0)),
		f("a", v(0), v(0), v(0)), f("a\x00"), f("aa"), f("ab"), f("b"), f("b", v(5)), f("é"), f("\xff"),
	}
	for i, a := range list {
		for k, b := range list {
			if got := Cmp(a, clone(b)); got != cmp.Compare(i, k) {
				t.Errorf("Cmp(%s, %s): %d, not %d", text(a), text(b), got, cmp.Compare(i, k))
			}
		}
	}
	if got := Cmp(chain(api.MaxDepth, v(1)), chain(api.MaxDepth, f("a"))); got != -1 {
		t.Errorf("Cmp of deep terms: %d", got)
	}
}

// plainCmp: the order as the chapter tells it, word by word.
func plainCmp(a, b api.Term) int {
	aVar, bVar := a.Fn == "", b.Fn == ""
	switch {
	case aVar && bVar:
		return cmp.Compare(a.Var, b.Var)
	case aVar:
		return -1
	case bVar:
		return 1
	case a.Fn != b.Fn:
		return cmp.Compare(a.Fn, b.Fn)
	case len(a.Args) != len(b.Args):
		return cmp.Compare(len(a.Args), len(b.Args))
	}
	for i := range a.Args {
		if text(a.Args[i]) != text(b.Args[i]) {
			return plainCmp(a.Args[i], b.Args[i])
		}
	}
	return 0
}

// P301, P302: of any right terms: 0 just if they are the same, and the same order the other way round.
func TestCmpAny(t *testing.T) {
	r := rand.New(rand.NewSource(2))
	zeros := 0
	for range 50000 {
		a, b := anyTerm(r, 3), anyTerm(r, 3)
		got := Cmp(a, b)
		if want := plainCmp(a, b); got != want || Cmp(b, a) != -want {
			t.Fatalf("Cmp(%s, %s): %d and %d, not %d", text(a), text(b), got, Cmp(b, a), want)
		}
		if same := text(a) == text(b); Same(a, b) != same || (got == 0) != same {
			t.Fatalf("Same(%s, %s): %v, Cmp %d", text(a), text(b), Same(a, b), got)
		}
		if got == 0 {
			zeros++
		}
	}
	if zeros < 100 {
		t.Errorf("only %d pairs were the same", zeros)
	}
}

// P303: the chapter's example, and the order of parts within parts.
func TestPlaces(t *testing.T) {
	cases := []struct {
		in   api.Term
		want string
	}{
		{v(3), "[[]]"}, {f("a"), "[[]]"}, {f("f", f("a"), v(0)), "[[] [0] [1]]"},
		{f("f", f("g", f("a"), f("h", v(1))), f("b"), f("k", f("c"))), "[[] [0] [0 0] [0 1] [0 1 0] [1] [2] [2 0]]"},
		{api.Term{Args: many(2, f("f", v(1)))}, "[[] [0] [0 0] [1] [1 0]]"},
	}
	for _, c := range cases {
		if got := fmt.Sprint(Places(c.in)); got != c.want {
			t.Errorf("Places(%s): %s, not %s", text(c.in), got, c.want)
		}
	}
	if got := Places(f("f", many(300, f("g", f("a")))...)); len(got) != 601 || !slices.Equal(got[600], []int{299, 0}) {
		t.Errorf("Places of a wide term: %d", len(got))
	}
	if got := Places(chain(1000, v(0))); len(got) != 1000 || len(got[999]) != 999 {
		t.Errorf("Places of a deep term: %d", len(got))
	}
}

// Rule 4: no place shares memory with another one, in its spare room neither, and none is kept.
func TestPlacesApart(t *testing.T) {
	whole := flat(60)
	places, want := Places(whole), fmt.Sprint(Places(whole))
	for i, place := range places {
		all := place[:cap(place)]
		for k := range all {
			all[k] = -1 - i
		}
	}
	for i, place := range places {
		for _, number := range place[:cap(place)] {
			if number != -1-i {
				t.Fatalf("place %d shares memory with place %d", i, -1-number)
			}
		}
	}
	if got := fmt.Sprint(Places(whole)); got != want {
		t.Errorf("what was handed out is kept: %s", got)
	}
}

// P303: At and Put where there is a part, at the edges, and where there is none.
func TestAtPut(t *testing.T) {
	whole := f("f", f("g", f("a"), v(1)), v(2), f("b"))
	s := f("h", v(9))
	cases := []struct {
		place   []int
		at, put api.Term
	}{
		{nil, whole, s}, {[]int{}, whole, s},
		{[]int{0}, f("g", f("a"), v(1)), f("f", s, v(2), f("b"))},
		{[]int{0, 0}, f("a"), f("f", f("g", s, v(1)), v(2), f("b"))},
		{[]int{0, 1}, v(1), f("f", f("g", f("a"), s), v(2), f("b"))},
		{[]int{1}, v(2), f("f", f("g", f("a"), v(1)), s, f("b"))},
		{[]int{2}, f("b"), f("f", f("g", f("a"), v(1)), v(2), s)},
	}
	for _, c := range cases {
		if got, errno := At(whole, c.place); errno != api.OK || text(got) != text(c.at) {
			t.Errorf("At %v: %s, %d, not %s", c.place, text(got), errno, text(c.at))
		}
		if got, errno := Put(whole, c.place, s); errno != api.OK || text(got) != text(c.put) {
			t.Errorf("Put %v: %s, %d, not %s", c.place, text(got), errno, text(c.put))
		}
	}
	for _, place := range [][]int{{3}, {-1}, {math.MaxInt}, {math.MinInt}, {0, 2}, {0, -1}, {0, 0, 0}, {0, 1, 0}, {1, 0}, {2, 0}, {3, 0}, {-1, 0}, make([]int, 100000)} {
		if got, errno := At(whole, place); errno != api.ErrGone || text(got) != text(api.Term{}) {
			t.Errorf("At %.20v: %s, %d", place, text(got), errno)
		}
		if got, errno := Put(whole, place, s); errno != api.ErrGone || text(got) != text(api.Term{}) {
			t.Errorf("Put %.20v: %s, %d", place, text(got), errno)
		}
	}
}

// P303: what comes of Put need not be right, nor what goes in.
func TestPutNotRight(t *testing.T) {
	deep := chain(api.MaxDepth, v(0))
	place := make([]int, api.MaxDepth-1)
	got, errno := Put(deep, place, f("f", f("a")))
	if errno != api.OK || !Same(got, chain(api.MaxDepth+1, f("a"))) {
		t.Errorf("Put at the depth's limit: %d, %d", Depth(got), errno)
	}
	for _, bad := range wrongs() {
		if got, errno := Put(f("f", f("a"), v(0)), []int{1}, bad); errno != api.OK || !Same(got, f("f", f("a"), bad)) {
			t.Errorf("Put of %.200s: %d", text(bad), errno)
		}
		if got, errno := At(f("f", f("a"), bad), []int{1}); errno != api.OK || !Same(got, bad) {
			t.Errorf("At of %.200s: %d", text(bad), errno)
		}
	}
	endless := chain(1<<16, v(0))
	place = make([]int, 1<<16-1)
	if got, errno := Put(endless, place, v(1)); errno != api.OK || !Same(got, chain(1<<16, v(1))) {
		t.Errorf("Put far down: %d", errno)
	}
	if got, errno := At(endless, place); errno != api.OK || !Same(got, v(0)) {
		t.Errorf("At far down: %d", errno)
	}
}

// P301, P303: as many places as parts, At goes through them in order, and Put changes what stands at its place alone.
func TestPlacesAny(t *testing.T) {
	r := rand.New(rand.NewSource(3))
	for range 2000 {
		whole, s := anyTerm(r, 4), anyTerm(r, 2)
		places := Places(whole)
		if len(places) != Size(whole) || !slices.IsSortedFunc(places, slices.Compare[[]int]) {
			t.Fatalf("Places(%s): %v", text(whole), places)
		}
		for _, place := range places {
			part, errno := At(whole, place)
			if errno != api.OK {
				t.Fatalf("At(%s, %v): %d", text(whole), place, errno)
			}
			if back, _ := Put(whole, place, part); text(back) != text(whole) {
				t.Fatalf("Put(%s, %v) of the part itself: %s", text(whole), place, text(back))
			}
			changed, _ := Put(whole, place, s)
			if there, _ := At(changed, place); text(there) != text(s) || Size(changed) != Size(whole)-Size(part)+Size(s) {
				t.Fatalf("Put(%s, %v, %s): %s", text(whole), place, text(s), text(changed))
			}
			for _, other := range places {
				apart := len(other) > 0 && len(place) > 0 && other[0] != place[0]
				was, _ := At(whole, other)
				if is, _ := At(changed, other); apart && text(is) != text(was) {
					t.Fatalf("Put(%s, %v, %s) changed %v: %s", text(whole), place, text(s), other, text(changed))
				}
			}
		}
	}
}

// roomy: a copy of the term whose lists have spare room with something in it.
func roomy(t api.Term) api.Term {
	room := make([]api.Term, 0, len(t.Args)+2)
	for _, arg := range t.Args {
		room = append(room, roomy(arg))
	}
	copy(room[len(room):cap(room)], many(2, f("spare")))
	return api.Term{Var: t.Var, Fn: t.Fn, Args: room}
}

// untouched: is the term still as roomy made it of want?
func untouched(t, want api.Term) bool {
	all := t.Args[:cap(t.Args)]
	if t.Var != want.Var || t.Fn != want.Fn || len(all) != len(want.Args)+2 || text(all[len(all)-2]) != text(f("spare")) || text(all[len(all)-1]) != text(f("spare")) {
		return false
	}
	for i, arg := range want.Args {
		if !untouched(all[i], arg) {
			return false
		}
	}
	return true
}

// Rule 4: what is handed in is not changed, and what is handed out shares no memory with it.
func TestApart(t *testing.T) {
	plainWhole, plainPut := f("f", f("g", v(5), v(1)), f("a"), v(5)), f("h", f("k", v(2)), v(0))
	whole, s := roomy(plainWhole), roomy(plainPut)
	for _, place := range Places(plainWhole) {
		room := append(slices.Clone(place), 7, 8)
		part, _ := At(whole, room[:len(place)])
		changed, _ := Put(whole, room[:len(place)], s)
		Right(whole)
		Size(whole)
		Depth(whole)
		Same(whole, s)
		Cmp(whole, s)
		clear(Vars(whole))
		spoil(part)
		spoil(changed)
		if !slices.Equal(room, append(slices.Clone(place), 7, 8)) {
			t.Errorf("the place became %v", room)
		}
		if !untouched(whole, plainWhole) || !untouched(s, plainPut) {
			t.Fatalf("at %v: %s, %s", place, text(whole), text(s))
		}
	}
}

// P303: a range over a term's parts may be left anywhere, and made anew.
func TestPartsLeft(t *testing.T) {
	all := parts(f("f", f("g", f("a"), f("b")), f("c")))
	for stop := range 6 {
		var seen []string
		for _, part := range all {
			if len(seen) == stop {
				break
			}
			seen = append(seen, part.Fn)
		}
		if want := []string{"f", "g", "a", "b", "c"}[:min(stop, 5)]; !slices.Equal(seen, want) {
			t.Errorf("left behind %d: %v, not %v", stop, seen, want)
		}
	}
}
