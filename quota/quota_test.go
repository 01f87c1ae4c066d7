package quota

import (
	"math"
	"math/big"
	"math/rand"
	"slices"
	"testing"

	"assize/api"
)

// edges: numbers about which something may go wrong.
func edges() []int {
	list := []int{math.MinInt, math.MinInt + 1, -(1 << 32), -2, -1, 0, 1, 2, 3, 5, 7, 16, 17, math.MaxInt - 1, math.MaxInt}
	for _, n := range []int{1 << 16, 1 << 31, 1 << 32, 1 << 40, 1 << 62, 3037000499, math.MaxInt / 2, math.MaxInt / 3, math.MaxInt / 7} {
		list = append(list, n-1, n, n+1)
	}
	return list
}

// whole: n as a whole number, 0 if it is below.
func whole(n int) *big.Int { return big.NewInt(int64(max(n, 0))) }

// held: n within 0 and the greatest int.
func held(n *big.Int) int {
	switch {
	case n.Sign() < 0:
		return 0
	case !n.IsInt64():
		return math.MaxInt
	}
	return int(n.Int64())
}

// newAccount: with those limits, which must be right.
func newAccount(t *testing.T, limits ...int) *Account {
	t.Helper()
	a, errno := New(limits)
	if errno != api.OK || a == nil {
		t.Fatalf("New(%v): %v, %d", limits, a, errno)
	}
	return a
}

// look: all that an account of so many kinds tells, and of two kinds that are none.
func look(a *Account, kinds int) []int {
	var seen []int
	for kind := -1; kind <= kinds; kind++ {
		seen = append(seen, a.Used(kind), a.Limit(kind), a.Peak(kind))
	}
	return append(seen, a.Mark()...)
}

// same: the account is as it was seen before.
func same(t *testing.T, what string, a *Account, kinds int, before []int) {
	t.Helper()
	if after := look(a, kinds); !slices.Equal(after, before) {
		t.Errorf("%s: %v, not %v as before", what, after, before)
	}
}

// P201: what the chapter names, written out.
func TestNumbers(t *testing.T) {
	const top = math.MaxInt
	cases := []struct {
		a, b          int
		add, sub, mul int
	}{
		{2, 3, 5, 0, 6}, {7, 3, 10, 4, 21}, {3, 5, 8, 0, 15}, {0, 0, 0, 0, 0}, {4, 0, 4, 4, 0}, {0, 4, 4, 0, 0},
		{top, 5, top, top - 5, top}, {5, top, top, 0, top}, {top, 0, top, top, 0}, {top, 1, top, top - 1, top},
		{top - 1, 1, top, top - 2, top - 1}, {top - 1, 2, top, top - 3, top}, {top, top, top, 0, top},
		{-1, 3, 3, 0, 0}, {3, -1, 3, 3, 0}, {-2, -3, 0, 0, 0}, {math.MinInt, math.MinInt, 0, 0, 0},
		{math.MinInt, top, top, 0, 0}, {top, math.MinInt, top, top, 0}, {math.MinInt, -1, 0, 0, 0},
		{1 << 40, 1 << 40, 1 << 41, 0, top}, {1 << 31, 1 << 31, 1 << 32, 0, 1 << 62}, {1 << 32, 1 << 31, 1<<32 + 1<<31, 1 << 31, top},
	}
	for _, c := range cases {
		if add, sub, mul := Add(c.a, c.b), Sub(c.a, c.b), Mul(c.a, c.b); add != c.add || sub != c.sub || mul != c.mul {
			t.Errorf("%d, %d: %d, %d, %d, not %d, %d, %d", c.a, c.b, add, sub, mul, c.add, c.sub, c.mul)
		}
	}
}

// P201: each pair of edges, held against whole numbers.
func TestNumbersWhole(t *testing.T) {
	for _, a := range edges() {
		for _, b := range edges() {
			x, y := whole(a), whole(b)
			if got, want := Add(a, b), held(new(big.Int).Add(x, y)); got != want {
				t.Errorf("Add(%d, %d): %d, not %d", a, b, got, want)
			}
			if got, want := Sub(a, b), held(new(big.Int).Sub(x, y)); got != want {
				t.Errorf("Sub(%d, %d): %d, not %d", a, b, got, want)
			}
			if got, want := Mul(a, b), held(new(big.Int).Mul(x, y)); got != want {
				t.Errorf("Mul(%d, %d): %d, not %d", a, b, got, want)
			}
		}
	}
}

// P202: how many limits there may be, and which.
func TestNew(t *testing.T) {
	for kinds := range 20 {
		limits := make([]int, kinds)
		for kind := range limits {
			limits[kind] = 3 * kind
		}
		a, errno := New(limits)
		if kinds < 1 || kinds > 16 {
			if a != nil || errno != api.ErrArg {
				t.Errorf("New of %d limits: %v, %d", kinds, a, errno)
			}
			continue
		}
		if a == nil || errno != api.OK {
			t.Fatalf("New of %d limits: %v, %d", kinds, a, errno)
		}
		for kind := range kinds {
			if a.Limit(kind) != 3*kind || a.Used(kind) != 0 || a.Peak(kind) != 0 {
				t.Errorf("new, kind %d: %v", kind, look(a, kinds))
			}
		}
		if a.Limit(kinds) != 0 || len(a.Mark()) != kinds {
			t.Errorf("new, %d kinds: %v", kinds, look(a, kinds))
		}
	}
	for _, wrong := range [][]int{nil, {}, {-1}, {math.MinInt}, {-1, 2, 3}, {1, -1, 3}, {1, 2, -1}} {
		if a, errno := New(wrong); a != nil || errno != api.ErrArg {
			t.Errorf("New(%v): %v, %d", wrong, a, errno)
		}
	}
	newAccount(t, 0)
	newAccount(t, math.MaxInt)
}

// P202: up to the limit, and not one beyond it.
func TestTake(t *testing.T) {
	a := newAccount(t, 2, 0, 10)
	steps := []struct {
		kind, n int
		want    api.Errno
		used    int
	}{
		{0, 1, api.OK, 1}, {0, 2, api.ErrFull, 1}, {0, 1, api.OK, 2}, {0, 1, api.ErrFull, 2}, {0, 0, api.OK, 2},
		{1, 0, api.OK, 0}, {1, 1, api.ErrFull, 0}, {2, 11, api.ErrFull, 0}, {2, 10, api.OK, 10},
		{2, math.MaxInt, api.ErrFull, 10}, {0, -1, api.ErrArg, 2}, {2, math.MinInt, api.ErrArg, 10},
		{-1, 1, api.ErrArg, 0}, {3, 1, api.ErrArg, 0}, {3, 0, api.ErrArg, 0}, {16, 1, api.ErrArg, 0},
		{math.MinInt, 1, api.ErrArg, 0}, {math.MaxInt, 1, api.ErrArg, 0}, {-1, -1, api.ErrArg, 0},
	}
	for i, s := range steps {
		before := look(a, 3)
		errno := a.Take(s.kind, s.n)
		if errno != s.want || a.Used(s.kind) != s.used {
			t.Errorf("step %d: Take(%d, %d): %d with %d used, not %d with %d", i, s.kind, s.n, errno, a.Used(s.kind), s.want, s.used)
		}
		if errno != api.OK {
			same(t, "Take that fails", a, 3, before)
		}
	}
	if got := a.Mark(); !slices.Equal(got, []int{2, 0, 10}) {
		t.Errorf("Mark: %v", got)
	}
	var none *Account
	for _, n := range []int{1, 0, -1} {
		if errno := none.Take(0, n); errno != api.ErrNil {
			t.Errorf("Take(0, %d) of nil: %d", n, errno)
		}
	}
}

// P202, P204: what would be used is above every number, the limit is not.
func TestTakeGreatest(t *testing.T) {
	a := newAccount(t, math.MaxInt)
	if errno := a.Take(0, math.MaxInt); errno != api.OK || a.Used(0) != math.MaxInt {
		t.Errorf("Take of all: %d, %d used", errno, a.Used(0))
	}
	before := look(a, 1)
	for _, n := range []int{1, 2, math.MaxInt} {
		if errno := a.Take(0, n); errno != api.ErrFull {
			t.Errorf("Take(0, %d) beyond all: %d", n, errno)
		}
		same(t, "Take beyond all", a, 1, before)
	}
	a.Give(0, 1)
	if errno := a.Take(0, 2); errno != api.ErrFull || a.Used(0) != math.MaxInt-1 {
		t.Errorf("Take(0, 2): %d, %d used", errno, a.Used(0))
	}
	if errno := a.Take(0, 1); errno != api.OK || a.Used(0) != math.MaxInt {
		t.Errorf("Take(0, 1): %d, %d used", errno, a.Used(0))
	}
}

// P202: at least 0 is left; of another kind, or below 0, nothing comes back.
func TestGive(t *testing.T) {
	a := newAccount(t, 10, 10)
	a.Take(0, 7)
	a.Take(1, 4)
	steps := []struct{ kind, n, used0, used1 int }{
		{0, 2, 5, 4}, {0, 0, 5, 4}, {0, -1, 5, 4}, {0, math.MinInt, 5, 4}, {2, 3, 5, 4}, {-1, 3, 5, 4},
		{math.MaxInt, 3, 5, 4}, {math.MinInt, 3, 5, 4}, {1, 4, 5, 0}, {1, 1, 5, 0}, {0, 6, 0, 0}, {0, math.MaxInt, 0, 0},
	}
	for _, s := range steps {
		a.Give(s.kind, s.n)
		if a.Used(0) != s.used0 || a.Used(1) != s.used1 {
			t.Errorf("Give(%d, %d): %v", s.kind, s.n, a.Mark())
		}
	}
	if a.Take(0, 10) != api.OK || a.Take(0, 1) != api.ErrFull {
		t.Error("giving more than was used moved the limit")
	}
	if a.Peak(0) != 10 || a.Peak(1) != 4 || a.Limit(0) != 10 || a.Limit(1) != 10 {
		t.Errorf("peaks and limits: %v", look(a, 2))
	}
	var none *Account
	none.Give(0, 1)
}

// P203: the peak goes up alone; another kind and nil have nothing.
func TestLooks(t *testing.T) {
	a := newAccount(t, 9, 8)
	a.Take(0, 3)
	a.Take(0, 2)
	a.Give(0, 4)
	a.Take(0, 1)
	a.Take(0, 8)
	a.Take(1, 8)
	if got, want := look(a, 2), []int{0, 0, 0, 2, 9, 5, 8, 8, 8, 0, 0, 0, 2, 8}; !slices.Equal(got, want) {
		t.Errorf("looks: %v, not %v", got, want)
	}
	a.Take(0, 4)
	if a.Used(0) != 6 || a.Peak(0) != 6 {
		t.Errorf("peak: %v", look(a, 2))
	}
	var none *Account
	for _, kind := range []int{math.MinInt, -1, 2, 16, math.MaxInt} {
		if a.Used(kind) != 0 || a.Limit(kind) != 0 || a.Peak(kind) != 0 {
			t.Errorf("kind %d is none, but tells something", kind)
		}
		if none.Used(kind) != 0 || none.Limit(kind) != 0 || none.Peak(kind) != 0 {
			t.Errorf("kind %d of nil tells something", kind)
		}
	}
	if none.Used(0) != 0 || none.Limit(0) != 0 || none.Peak(0) != 0 || len(none.Mark()) != 0 {
		t.Error("nil tells something")
	}
}

// P203: back to what was marked, and to each number below what is used.
func TestBack(t *testing.T) {
	a := newAccount(t, 5, 5, 5)
	a.Take(0, 2)
	mark := a.Mark()
	a.Take(0, 1)
	a.Take(1, 5)
	a.Take(2, 4)
	if errno := a.Back(mark); errno != api.OK || !slices.Equal(a.Mark(), []int{2, 0, 0}) {
		t.Errorf("Back(%v): %d, %v", mark, errno, a.Mark())
	}
	if a.Peak(0) != 3 || a.Peak(1) != 5 || a.Peak(2) != 4 || a.Limit(1) != 5 {
		t.Errorf("Back: peaks do not stay: %v", look(a, 3))
	}
	if errno := a.Back(mark); errno != api.OK || !slices.Equal(a.Mark(), mark) {
		t.Errorf("Back(%v) again: %d, %v", mark, errno, a.Mark())
	}
	if a.Take(1, 6) != api.ErrFull || a.Take(1, 5) != api.OK {
		t.Error("Take behind Back")
	}
	if errno := a.Back([]int{1, 3, 0}); errno != api.OK || !slices.Equal(a.Mark(), []int{1, 3, 0}) {
		t.Errorf("Back: %d, %v", errno, a.Mark())
	}
}

// P203: wrong marks change nothing, though some of their numbers may be right.
func TestBackWrong(t *testing.T) {
	a := newAccount(t, 5, 5, 5)
	a.Take(0, 2)
	a.Take(1, 3)
	a.Take(2, 5)
	a.Give(2, 4)
	before := look(a, 3)
	wrong := [][]int{
		nil, {}, {0}, {0, 0}, {0, 0, 0, 0}, {-1, 0, 0}, {0, -1, 0}, {0, 0, -1}, {1, 1, math.MinInt},
		{3, 0, 0}, {0, 4, 0}, {0, 0, 2}, {0, 0, 5}, {1, 1, math.MaxInt}, {-1, 9, 0},
	}
	for _, mark := range wrong {
		if errno := a.Back(mark); errno != api.ErrArg {
			t.Errorf("Back(%v): %d", mark, errno)
		}
		same(t, "Back that fails", a, 3, before)
	}
	var none *Account
	for _, mark := range [][]int{nil, {0}, {-1}} {
		if errno := none.Back(mark); errno != api.ErrNil {
			t.Errorf("Back(%v) of nil: %d", mark, errno)
		}
	}
}

// What is handed in is neither changed nor kept, what is handed out is seen by nobody, and accounts share nothing.
func TestShares(t *testing.T) {
	room := []int{4, 5, 77, 78}
	a := newAccount(t, room[:2]...)
	b := newAccount(t, room[:2]...)
	a.Take(0, 3)
	mark := a.Mark()
	before, other := look(a, 2), look(b, 2)
	room[0], room[1] = 0, 0
	for i := range mark[:cap(mark)] {
		mark[:cap(mark)][i] = 99
	}
	same(t, "writing into limits and a mark", a, 2, before)
	same(t, "another account", b, 2, other)
	if a.Take(0, 1) != api.OK {
		t.Error("the limit was kept, not its number")
	}
	back := []int{1, 0, 77, 78}
	if errno := a.Back(back[:2]); errno != api.OK {
		t.Errorf("Back: %d", errno)
	}
	back[0] = 3
	if a.Used(0) != 1 || !slices.Equal(back, []int{3, 0, 77, 78}) || !slices.Equal(room, []int{0, 0, 77, 78}) {
		t.Errorf("a mark is kept or changed: %v, %v, %v", a.Mark(), back, room)
	}
	first, second := a.Mark(), a.Mark()
	first[0] = 42
	if second[0] != 1 {
		t.Error("two marks share memory")
	}
}

// P204: what is taken and given back, or gone back from, leaves all as it was, but the peaks.
func TestLeavesAll(t *testing.T) {
	for _, limit := range []int{0, 1, 5, math.MaxInt} {
		for _, n := range edges() {
			a := newAccount(t, limit, limit)
			start := min(limit, 2)
			a.Take(1, start)
			before := a.Mark()
			if errno := a.Take(1, n); errno == api.OK {
				a.Give(1, n)
			}
			if !slices.Equal(a.Mark(), before) {
				t.Errorf("limit %d: Take and Give of %d: %v, not %v", limit, n, a.Mark(), before)
			}
			a.Take(1, n)
			a.Take(0, n)
			if errno := a.Back(before); errno != api.OK || !slices.Equal(a.Mark(), before) {
				t.Errorf("limit %d: Take and Back of %d: %d, %v, not %v", limit, n, errno, a.Mark(), before)
			}
		}
	}
}

// model: an account of whole numbers.
type model struct {
	limit, used, peak []*big.Int
}

func newModel(limits []int) *model {
	m := &model{}
	for _, limit := range limits {
		m.limit = append(m.limit, big.NewInt(int64(limit)))
		m.used = append(m.used, new(big.Int))
		m.peak = append(m.peak, new(big.Int))
	}
	return m
}

func (m *model) take(kind, n int) api.Errno {
	if kind < 0 || kind >= len(m.limit) || n < 0 {
		return api.ErrArg
	}
	sum := new(big.Int).Add(m.used[kind], big.NewInt(int64(n)))
	if sum.Cmp(m.limit[kind]) > 0 {
		return api.ErrFull
	}
	m.used[kind] = sum
	if sum.Cmp(m.peak[kind]) > 0 {
		m.peak[kind] = sum
	}
	return api.OK
}

func (m *model) give(kind, n int) {
	if kind >= 0 && kind < len(m.limit) && n >= 0 {
		m.used[kind] = big.NewInt(int64(held(new(big.Int).Sub(m.used[kind], big.NewInt(int64(n))))))
	}
}

func (m *model) back(mark []int) api.Errno {
	if len(mark) != len(m.limit) {
		return api.ErrArg
	}
	for kind, n := range mark {
		if n < 0 || big.NewInt(int64(n)).Cmp(m.used[kind]) > 0 {
			return api.ErrArg
		}
	}
	for kind, n := range mark {
		m.used[kind] = big.NewInt(int64(n))
	}
	return api.OK
}

// agree: the account tells what the model has, and no more is used than the limit.
func agree(t *testing.T, a *Account, m *model) {
	t.Helper()
	for kind := range m.limit {
		used, limit, peak := int64(a.Used(kind)), int64(a.Limit(kind)), int64(a.Peak(kind))
		if used != m.used[kind].Int64() || limit != m.limit[kind].Int64() || peak != m.peak[kind].Int64() {
			t.Fatalf("kind %d: %d of %d, peak %d, not %v of %v, peak %v", kind, used, limit, peak, m.used[kind], m.limit[kind], m.peak[kind])
		}
		if used < 0 || used > limit || peak < used || peak > limit {
			t.Fatalf("kind %d: %d of %d, peak %d", kind, used, limit, peak)
		}
	}
}

// P202, P203, P204: long runs of calls, right ones and wrong ones, held against whole numbers.
func TestRuns(t *testing.T) {
	r := rand.New(rand.NewSource(204))
	numbers := []int{math.MinInt, -1, 0, 1, 2, 3, 4, 7, 1 << 62, math.MaxInt - 3, math.MaxInt - 1, math.MaxInt}
	limits := []int{0, 1, 5, 12, 1 << 62, math.MaxInt - 1, math.MaxInt}
	for range 300 {
		given := make([]int, 1+r.Intn(16))
		for kind := range given {
			given[kind] = limits[r.Intn(len(limits))]
		}
		a, m := newAccount(t, given...), newModel(given)
		marks := [][]int{nil, a.Mark()}
		for range 200 {
			kind, n := r.Intn(len(given)+2)-1, numbers[r.Intn(len(numbers))]
			switch r.Intn(6) {
			case 0, 1, 2:
				if got, want := a.Take(kind, n), m.take(kind, n); got != want {
					t.Fatalf("Take(%d, %d): %d, not %d", kind, n, got, want)
				}
			case 3:
				a.Give(kind, n)
				m.give(kind, n)
			case 4:
				marks = append(marks, a.Mark())
			case 5:
				mark := marks[r.Intn(len(marks))]
				if got, want := a.Back(mark), m.back(mark); got != want {
					t.Fatalf("Back(%v): %d, not %d", mark, got, want)
				}
			}
			agree(t, a, m)
		}
	}
}
