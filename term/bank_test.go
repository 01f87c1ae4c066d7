package term

import (
	"fmt"
	"maps"
	"math"
	"math/rand"
	"slices"
	"strings"
	"testing"

	"assize/api"
)

// newBank: of that limit, which must be right.
func newBank(t *testing.T, limit int) *Bank {
	t.Helper()
	b, errno := New(limit)
	if errno != api.OK || b == nil || b.Len() != 0 {
		t.Fatalf("New(%d): %v, %d", limit, b, errno)
	}
	return b
}

// wantMake: Make answers that number, and the bank has so many nodes then.
func wantMake(t *testing.T, b *Bank, in api.Term, id, size int) {
	t.Helper()
	if got, errno := b.Make(in); got != id || errno != api.OK || b.Len() != size {
		t.Errorf("Make(%.200s): %d, %d, Len %d, not %d, Len %d", text(in), got, errno, b.Len(), id, size)
	}
}

// wantFail: Make answers no number but that error.
func wantFail(t *testing.T, b *Bank, in api.Term, want api.Errno) {
	t.Helper()
	if got, errno := b.Make(in); got != 0 || errno != want {
		t.Errorf("Make(%.200s): %d, %d, not %d", text(in), got, errno, want)
	}
}

// wantDrop: Drop answers so, and the bank has so many nodes then.
func wantDrop(t *testing.T, b *Bank, id int, want api.Errno, size int) {
	t.Helper()
	if got := b.Drop(id); got != want || b.Len() != size {
		t.Errorf("Drop(%d): %d, Len %d, not %d, Len %d", id, got, b.Len(), want, size)
	}
}

// nodesOf: the texts of a bank's terms by their numbers, up to the number last.
func nodesOf(t *testing.T, b *Bank, last int) map[int]string {
	t.Helper()
	nodes := map[int]string{}
	for id := -1; id <= last; id++ {
		switch got, errno := b.Get(id); {
		case errno == api.OK:
			nodes[id] = text(got)
		case errno != api.ErrGone || text(got) != text(api.Term{}):
			t.Fatalf("Get(%d): %s, %d", id, text(got), errno)
		}
	}
	return nodes
}

// wantNodes: the bank has those terms, numbered by their order (nil: a number that none has).
func wantNodes(t *testing.T, b *Bank, terms ...*api.Term) {
	t.Helper()
	want := map[int]string{}
	for i, in := range terms {
		if in != nil {
			want[i+1] = text(*in)
		}
	}
	if got := nodesOf(t, b, len(terms)+5); !maps.Equal(got, want) || b.Len() != len(want) {
		t.Errorf("nodes: %v, Len %d, not %v", got, b.Len(), want)
	}
}

// P304: how many nodes a bank may have.
func TestNew(t *testing.T) {
	for _, limit := range []int{0, -1, math.MinInt, 1000001, math.MaxInt} {
		if b, errno := New(limit); b != nil || errno != api.ErrArg {
			t.Errorf("New(%d): %v, %d", limit, b, errno)
		}
	}
	for _, limit := range []int{1, 2, 999999, 1000000} {
		wantNodes(t, newBank(t, limit))
	}
}

// P304: of nil.
func TestNilBank(t *testing.T) {
	var b *Bank
	wantFail(t, b, f("a"), api.ErrNil)
	wantFail(t, b, v(-1), api.ErrNil)
	if got, errno := b.Get(1); errno != api.ErrNil || text(got) != text(api.Term{}) {
		t.Errorf("Get: %s, %d", text(got), errno)
	}
	wantDrop(t, b, 1, api.ErrNil, 0)
}

// P304: the chapter's example; parts that are there already, and parts that a new term has twice.
func TestMake(t *testing.T) {
	b := newBank(t, 100)
	a, x, fa := f("a"), v(7), f("f", f("a"), f("a"))
	wantMake(t, b, fa, 2, 2)
	wantNodes(t, b, &a, &fa)
	whole := f("g", f("h", x), fa, f("h", x), a)
	hx := f("h", x)
	wantMake(t, b, whole, 5, 5)
	wantNodes(t, b, &a, &fa, &x, &hx, &whole)
	wantMake(t, b, hx, 4, 5)
	wantMake(t, b, a, 1, 5)
	wantMake(t, b, whole, 5, 5)
}

// P304, P305: terms that differ a little get numbers of their own.
func TestMakeApart(t *testing.T) {
	name := strings.Repeat("n", api.MaxName)
	list := []api.Term{
		v(0), v(1), v(api.MaxVar - 1), f("a"), f("b"), f("aa"), f("\x00"), f("\xff"), f(name),
		f("a", v(0)), f("a", v(1)), f("a", v(0), v(0)), f("a", v(0), v(1)), f("a", v(1), v(0)), f("b", v(0), v(1)),
		f("a", f("a", v(0))), f("a", many(api.MaxArgs, v(0))...), f("a", many(api.MaxArgs-1, v(0))...),
	}
	b := newBank(t, len(list))
	for i, in := range list {
		wantMake(t, b, in, i+1, i+1)
	}
	for i, in := range list {
		wantMake(t, b, in, i+1, len(list))
		if got, errno := b.Get(i + 1); errno != api.OK || text(got) != text(in) {
			t.Errorf("Get(%d): %s, %d, not %s", i+1, text(got), errno, text(in))
		}
	}
	wantMake(t, b, api.Term{Fn: "a", Args: []api.Term{}}, 4, len(list))
}

// P304: a term that is not right is refused by Right's error, ahead of what the bank has room for.
func TestMakeNotRight(t *testing.T) {
	b := newBank(t, 1)
	a := f("a")
	wantMake(t, b, a, 1, 1)
	for _, bad := range wrongs() {
		wantFail(t, b, bad, api.ErrArg)
		wantFail(t, b, f("f", f("b"), bad), api.ErrArg)
	}
	wantFail(t, b, chain(api.MaxDepth+1, a), api.ErrDeep)
	wantFail(t, b, chain(1<<16, a), api.ErrDeep)
	wantFail(t, b, flat(api.MaxNodes+1), api.ErrBig)
	wantNodes(t, b, &a)
	wantDrop(t, b, 1, api.OK, 0)
}

// P304: at the limit, one beyond it; one that is refused changes nothing, the free numbers neither.
func TestMakeFull(t *testing.T) {
	b := newBank(t, 4)
	a, c, ga := f("a"), f("c"), f("g", f("a"))
	wantFail(t, b, f("f", f("a"), f("b"), f("c"), f("d")), api.ErrFull)
	wantNodes(t, b)
	wantMake(t, b, f("f", f("a"), f("a"), f("a"), f("a"), f("a")), 2, 2)
	wantMake(t, b, c, 3, 3)
	wantMake(t, b, ga, 4, 4)
	wantFail(t, b, v(0), api.ErrFull)
	wantFail(t, b, f("g", c), api.ErrFull)
	wantMake(t, b, a, 1, 4)
	wantMake(t, b, ga, 4, 4)
	wantDrop(t, b, 2, api.OK, 3)
	for range 3 {
		wantFail(t, b, f("h", f("x"), a), api.ErrFull)
		wantFail(t, b, f("h", f("h", c)), api.ErrFull)
		wantNodes(t, b, &a, nil, &c, &ga)
	}
	hc := f("h", c)
	wantMake(t, b, hc, 2, 4)
	wantNodes(t, b, &a, &hc, &c, &ga)
}

// P304: parts that are not there yet are taken for none that is, while it is counted whether there is room.
func TestMakeFullCounts(t *testing.T) {
	b := newBank(t, 4)
	a, ga := f("a"), f("g", f("a"))
	wantMake(t, b, ga, 2, 2)
	wantFail(t, b, f("h", f("g", f("b"))), api.ErrFull)
	wantFail(t, b, f("g", f("g", f("g", f("g", v(0))))), api.ErrFull)
	wantNodes(t, b, &a, &ga)
	gb, c := f("g", f("b")), f("b")
	wantMake(t, b, gb, 4, 4)
	wantNodes(t, b, &a, &ga, &c, &gb)
}

// P304: the deepest and the greatest term, in a bank that has just room for them, or just not.
func TestMakeLimits(t *testing.T) {
	deep := chain(api.MaxDepth, v(0))
	wantFail(t, newBank(t, api.MaxDepth-1), deep, api.ErrFull)
	wantMake(t, newBank(t, api.MaxDepth), deep, api.MaxDepth, api.MaxDepth)
	great := distinct(flat(api.MaxNodes))
	wantFail(t, newBank(t, api.MaxNodes-1), great, api.ErrFull)
	b := newBank(t, api.MaxNodes)
	wantMake(t, b, great, api.MaxNodes, api.MaxNodes)
	if got, errno := b.Get(api.MaxNodes); errno != api.OK || !Same(got, great) {
		t.Errorf("Get of the greatest: %d", errno)
	}
	wantFail(t, b, v(0), api.ErrFull)
	wantDrop(t, b, api.MaxNodes, api.OK, 0)
	alike := map[string]int{}
	for _, part := range parts(flat(api.MaxNodes)) {
		alike[text(part)]++
	}
	wantFail(t, newBank(t, len(alike)-1), flat(api.MaxNodes), api.ErrFull)
	wantMake(t, newBank(t, len(alike)), flat(api.MaxNodes), len(alike), len(alike))
}

// distinct: the term with another name for each of its parts.
func distinct(in api.Term) api.Term {
	count := 0
	var rename func(int, api.Term) api.Term
	rename = func(_ int, part api.Term) api.Term {
		part = rebuilt(part, rename)
		count++
		part.Fn += fmt.Sprint(count)
		return part
	}
	return rename(0, in)
}

// P304: what Drop takes away, and what it leaves; its numbers are free, the least first.
func TestDrop(t *testing.T) {
	b := newBank(t, 100)
	a, c, x := f("a"), f("c"), v(1)
	fax, gf := f("f", a, x), f("g", f("f", a, x), c)
	wantMake(t, b, gf, 5, 5)
	wantNodes(t, b, &a, &x, &fax, &c, &gf)
	for id := -1; id <= 7; id++ {
		if id != 5 {
			wantDrop(t, b, id, api.ErrGone, 5) // parts are nodes, but not kept by Make
		}
	}
	wantDrop(t, b, math.MaxInt, api.ErrGone, 5)
	wantDrop(t, b, math.MinInt, api.ErrGone, 5)
	wantMake(t, b, x, 2, 5)
	wantMake(t, b, x, 2, 5)
	wantDrop(t, b, 5, api.OK, 1)
	wantNodes(t, b, nil, &x)
	wantDrop(t, b, 5, api.ErrGone, 1)
	gxc := f("g", x, c)
	wantMake(t, b, gxc, 3, 3)
	wantNodes(t, b, &c, &x, &gxc)
	wantDrop(t, b, 2, api.OK, 3)
	wantDrop(t, b, 2, api.OK, 3)
	wantDrop(t, b, 2, api.ErrGone, 3)
	wantDrop(t, b, 3, api.OK, 0)
	wantNodes(t, b)
	wantDrop(t, b, 3, api.ErrGone, 0)
	wantMake(t, b, a, 1, 1)
}

// P304: a part that stands twice in a term goes with it, and one that a second term has stays.
func TestDropShared(t *testing.T) {
	b := newBank(t, 100)
	a, faa, gaa := f("a"), f("f", f("a"), f("a")), f("g", f("a"), f("a"))
	wantMake(t, b, faa, 2, 2)
	wantMake(t, b, gaa, 3, 3)
	wantDrop(t, b, 2, api.OK, 2)
	wantNodes(t, b, &a, nil, &gaa)
	wantMake(t, b, gaa, 3, 2)
	wantDrop(t, b, 3, api.OK, 2)
	wantNodes(t, b, &a, nil, &gaa)
	wantDrop(t, b, 3, api.OK, 0)
	wantNodes(t, b)
}

// P305: what is dropped as often as it was made leaves the bank empty, in whatever order, and the numbers begin anew.
func TestEmptied(t *testing.T) {
	r := rand.New(rand.NewSource(5))
	for range 200 {
		b := newBank(t, 10000)
		var ids []int
		for range 30 {
			id, errno := b.Make(anyTerm(r, 4))
			if errno != api.OK {
				t.Fatalf("Make: %d", errno)
			}
			ids = append(ids, id)
		}
		r.Shuffle(len(ids), func(i, k int) { ids[i], ids[k] = ids[k], ids[i] })
		for i, id := range ids {
			if b.Len() == 0 || b.Drop(id) != api.OK {
				t.Fatalf("Drop(%d) behind %d of %v: Len %d", id, i, ids, b.Len())
			}
		}
		wantNodes(t, b)
		wantMake(t, b, f("f", f("a")), 2, 2)
	}
}

// model: a bank in the plainest way: nodes are looked up by their texts, and counted anew each time.
type model struct {
	limit int
	terms map[int]api.Term // of nodes, by their numbers
	kept  map[int]int
}

func (m *model) number(in api.Term) int {
	for id, t := range m.terms {
		if text(t) == text(in) {
			return id
		}
	}
	return 0
}

// add: the parts that are not there, arguments ahead of what they are of, get the least free numbers.
func (m *model) add(in api.Term) int {
	for _, arg := range in.Args {
		m.add(arg)
	}
	if id := m.number(in); id != 0 {
		return id
	}
	for id := 1; ; id++ {
		if _, taken := m.terms[id]; !taken {
			m.terms[id], m.kept[id] = in, 0
			return id
		}
	}
}

func (m *model) make(in api.Term) (int, api.Errno) {
	terms, kept := maps.Clone(m.terms), maps.Clone(m.kept)
	id := m.add(in)
	if len(m.terms) > m.limit {
		m.terms, m.kept = terms, kept
		return 0, api.ErrFull
	}
	m.kept[id]++
	return id, api.OK
}

func (m *model) drop(id int) api.Errno {
	if m.kept[id] == 0 {
		return api.ErrGone
	}
	m.kept[id]--
	held := map[string]int{}
	for k, n := range m.kept {
		if n > 0 {
			for _, part := range parts(m.terms[k]) {
				held[text(part)]++
			}
		}
	}
	for k, in := range m.terms {
		if held[text(in)] == 0 {
			delete(m.terms, k)
			delete(m.kept, k)
		}
	}
	return api.OK
}

// P304, P305: whatever is made and dropped, the bank is as the model.
func TestBankAny(t *testing.T) {
	r := rand.New(rand.NewSource(4))
	full, gone := 0, 0
	for _, limit := range []int{1, 2, 5, 12, 30, 1000} {
		b, m := newBank(t, limit), &model{limit, map[int]api.Term{}, map[int]int{}}
		for step := range 300 {
			if r.Intn(5) < 2 {
				id := r.Intn(min(limit, 40)+2) - 1
				got, want := b.Drop(id), m.drop(id)
				if got != want {
					t.Fatalf("step %d: Drop(%d): %d, not %d", step, id, got, want)
				}
				if want == api.ErrGone {
					gone++
				}
			} else {
				in := anyTerm(r, 3)
				id, errno := b.Make(in)
				if wantId, want := m.make(in); id != wantId || errno != want {
					t.Fatalf("step %d: Make(%s): %d, %d, not %d, %d", step, text(in), id, errno, wantId, want)
				}
				if errno == api.ErrFull {
					full++
				}
			}
			agree(t, b, m)
		}
	}
	if full < 50 || gone < 50 {
		t.Errorf("only %d were refused, %d not there", full, gone)
	}
}

// agree: both have the same nodes, and no two of the bank's are the same.
func agree(t *testing.T, b *Bank, m *model) {
	t.Helper()
	want := map[int]string{}
	last := 0
	for id, in := range m.terms {
		want[id] = text(in)
		last = max(last, id)
	}
	got := nodesOf(t, b, last+3)
	if !maps.Equal(got, want) || b.Len() != len(want) {
		t.Fatalf("nodes: %v, Len %d, not %v", got, b.Len(), want)
	}
	texts := slices.Sorted(maps.Values(got))
	if len(slices.Compact(texts)) != len(got) {
		t.Fatalf("a term stands twice: %v", got)
	}
}

// Rule 4: what goes into a bank is neither changed nor kept, and what comes out is new memory each time.
func TestBankApart(t *testing.T) {
	b, other := newBank(t, 100), newBank(t, 100)
	plain := f("f", f("g", v(5), v(1)), f("g", v(5), v(1)), v(5))
	in := roomy(plain)
	id, _ := b.Make(in)
	if !untouched(in, plain) {
		t.Errorf("Make changed its term: %s", text(in))
	}
	spoil(in)
	for range 2 {
		got, errno := b.Get(id)
		if errno != api.OK || text(got) != text(plain) {
			t.Fatalf("Get: %s, %d", text(got), errno)
		}
		spoil(got.Args[0])
		if text(got.Args[1]) != text(plain.Args[1]) {
			t.Errorf("Get's lists share memory: %s", text(got))
		}
		spoil(got)
	}
	if other.Len() != 0 {
		t.Error("two banks share their nodes")
	}
	wantMake(t, b, plain, id, 4)
	wantMake(t, other, v(5), 1, 1)
}

// P304: a great bank that is full: numbers go and come in any order, each soon.
func TestGreatBank(t *testing.T) {
	const limit = 150000
	b := newBank(t, limit)
	for id := 1; id <= limit; id++ {
		if got, errno := b.Make(v(id - 1)); got != id || errno != api.OK {
			t.Fatalf("Make of X%d: %d, %d", id-1, got, errno)
		}
	}
	wantFail(t, b, f("a"), api.ErrFull)
	for id := limit; id > 0; id -= 3 {
		if errno := b.Drop(id); errno != api.OK {
			t.Fatalf("Drop(%d): %d", id, errno)
		}
	}
	for id := 3; id <= limit; id += 3 {
		if got, errno := b.Make(v(limit - id + 2)); got != id || errno != api.OK {
			t.Fatalf("Make of X%d: %d, %d, not %d", limit-id+2, got, errno, id)
		}
	}
	wantFail(t, b, f("a"), api.ErrFull)
}
