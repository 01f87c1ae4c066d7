package disc

import (
	"fmt"
	"maps"
	"math"
	"math/rand"
	"runtime"
	"slices"
	"strings"
	"testing"
	"time"

	"assize/api"
	"assize/subst"
	"assize/term"
	"assize/unify"
)

// P1101, P1102: the chapter's example.
func TestExample(t *testing.T) {
	a, b, x := f("a"), f("b"), v(0)
	d := New()
	wantInsert(t, d, 1, f("f", x, x), api.OK, 1, 4)
	wantInsert(t, d, 2, f("f", x, b), api.OK, 2, 5)
	wantInsert(t, d, 3, a, api.OK, 3, 6)
	wantGenerals(t, d, f("f", b, b), `1[0:"b"() ] 2[0:"b"() ] `)
	wantGenerals(t, d, f("f", a, b), `2[0:"a"() ] `)
	wantGenerals(t, d, f("f", a, a), `1[0:"a"() ] `)
	wantGenerals(t, d, a, "3[] ")
	wantGenerals(t, d, b, "")
	wantVariants(t, d, f("f", v(7), b), 2)
	wantVariants(t, d, f("f", v(7), v(7)), 1)
	wantVariants(t, d, f("f", v(7), v(8)))
	wantVariants(t, d, a, 3)
}

// P1101: numbers of the whole range; one that is there stays as it is; one that is gone may come back as another term.
func TestNumbers(t *testing.T) {
	a, b := f("a"), f("b")
	d, nodes := New(), 0
	ids := []int{0, math.MaxInt, -1, math.MinInt, 1, -5, 1 << 32}
	for n, id := range ids {
		wantRemove(t, d, id, api.ErrGone, n, nodes)
		nodes = 2
		wantInsert(t, d, id, a, api.OK, n+1, nodes)
		wantInsert(t, d, id, a, api.ErrTwice, n+1, nodes)
		wantInsert(t, d, id, b, api.ErrTwice, n+1, nodes)
	}
	rising := slices.Sorted(slices.Values(ids))
	wantVariants(t, d, a, rising...)
	wantVariants(t, d, b)
	wantGenerals(t, d, a, fmt.Sprintf("%d[] %d[] %d[] %d[] %d[] %d[] %d[] ", math.MinInt, -5, -1, 0, 1, 1<<32, math.MaxInt))
	wantRemove(t, d, 2, api.ErrGone, 7, 2)
	wantRemove(t, d, -1, api.OK, 6, 2)
	wantRemove(t, d, -1, api.ErrGone, 6, 2)
	wantInsert(t, d, -1, b, api.OK, 7, 3)
	wantVariants(t, d, b, -1)
	wantInsert(t, d, -1, a, api.ErrTwice, 7, 3)
	wantVariants(t, d, b, -1)
	for n, id := range ids {
		left := []int{3, 3, 2, 2, 2, 2, 0}[n]
		wantRemove(t, d, id, api.OK, 6-n, left)
		wantRemove(t, d, id, api.ErrGone, 6-n, left)
	}
	wantGenerals(t, d, a, "")
	wantVariants(t, d, a)
	wantInsert(t, d, 1, b, api.OK, 1, 2)
	wantGenerals(t, d, b, "1[] ")
	wantGenerals(t, d, a, "")
}

// P1101, P1102: terms that are not right, ahead of whether the number is there; nothing changes, and nothing is told of them.
func TestWrong(t *testing.T) {
	d := New()
	for _, bad := range wrongTerms() {
		wantInsert(t, d, 1, bad, api.ErrArg, 0, 0)
		wantGenerals(t, d, bad, "")
		wantVariants(t, d, bad)
	}
	wantInsert(t, d, 1, f("a"), api.OK, 1, 2)
	wantInsert(t, d, 2, v(0), api.OK, 2, 3)
	wantInsert(t, d, 4, f("g", v(0)), api.OK, 3, 5)
	for _, bad := range wrongTerms() {
		wantInsert(t, d, 1, bad, api.ErrArg, 3, 5)
		wantInsert(t, d, 3, bad, api.ErrArg, 3, 5)
		wantGenerals(t, d, bad, "")
		wantVariants(t, d, bad)
		wantRemove(t, d, 3, api.ErrGone, 3, 5)
	}
	wantGenerals(t, d, f("a"), `1[] 2[0:"a"() ] `)
}

// P1101, P1102: of nil.
func TestNil(t *testing.T) {
	var d *Tree
	wantInsert(t, d, 1, f("a"), api.ErrNil, 0, 0)
	wantInsert(t, d, 1, v(-1), api.ErrNil, 0, 0)
	wantRemove(t, d, 1, api.ErrNil, 0, 0)
	for _, in := range []api.Term{f("a"), v(0), v(-1)} {
		wantGenerals(t, d, in, "")
		wantVariants(t, d, in)
	}
}

// P1101, P1102: a new tree has neither a term nor a node, and tells nothing.
func TestNew(t *testing.T) {
	d := New()
	if d == nil || d.Len() != 0 || d.Nodes() != 0 {
		t.Fatalf("New: Len %d, Nodes %d", d.Len(), d.Nodes())
	}
	wantRemove(t, d, 0, api.ErrGone, 0, 0)
	wantGenerals(t, d, v(0), "")
	wantVariants(t, d, v(0))
	wantVariants(t, d, f("a"))
}

// P1101: which paths have nodes in common: names and numbers of arguments count, the variables' numbers do not.
func TestNodes(t *testing.T) {
	a, x, y := f("a"), v(0), v(1)
	d := New()
	wantInsert(t, d, 1, x, api.OK, 1, 2)
	wantInsert(t, d, 2, y, api.OK, 2, 2)
	wantInsert(t, d, 3, f("*"), api.OK, 3, 3)
	wantInsert(t, d, 4, a, api.OK, 4, 4)
	wantInsert(t, d, 5, f("a", a), api.OK, 5, 6)
	wantInsert(t, d, 6, f("a", a, a), api.OK, 6, 9)
	wantInsert(t, d, 7, f("a", a, x), api.OK, 7, 10)
	wantInsert(t, d, 8, f("a", f("a", a), x), api.OK, 8, 13)
	wantInsert(t, d, 9, f("a", f("a", x), x), api.OK, 9, 15)
	wantInsert(t, d, 10, f("a", x, y), api.OK, 10, 17)
	wantInsert(t, d, 11, f("a", y, y), api.OK, 11, 17)
	wantInsert(t, d, 12, f("a", f("a", f("a", x)), a), api.OK, 12, 20)
	wantRemove(t, d, 1, api.OK, 11, 20)
	wantRemove(t, d, 2, api.OK, 10, 19)
	wantRemove(t, d, 10, api.OK, 9, 19)
	wantRemove(t, d, 6, api.OK, 8, 18)
	wantRemove(t, d, 8, api.OK, 7, 16)
	wantRemove(t, d, 9, api.OK, 6, 14)
	wantRemove(t, d, 12, api.OK, 5, 10)
	wantRemove(t, d, 4, api.OK, 4, 9)
	wantRemove(t, d, 3, api.OK, 3, 8)
	wantRemove(t, d, 7, api.OK, 2, 6)
	wantRemove(t, d, 5, api.OK, 1, 4)
	wantRemove(t, d, 11, api.OK, 0, 0)
}

// P1101: names and numbers of arguments that run together if they are written one behind the other.
func TestSymbolsApart(t *testing.T) {
	a, b := f("a"), f("b")
	list := []api.Term{
		f("f", f("g", a), b), f("f", f("g"), a, b), f("f", f("g", a, b)), f("f", a, b), f("f", f("a b")), f("f", f("ab")),
		f("f1"), f("f", f("1")), f("*"), f("\x00"), f("\xff"), f("\xff\xff"), v(0), f("X0"), f("0"), f(" "), f("$true"), f("@p", v(0)), f("F"),
	}
	d, m := New(), model{}
	for id, in := range list {
		m[id] = in
		wantInsert(t, d, id, in, api.OK, id+1, m.nodes())
	}
	for _, in := range list {
		wantAsked(t, d, m, in)
	}
	for id := range list {
		delete(m, id)
		wantRemove(t, d, id, api.OK, len(m), m.nodes())
	}
}

// P1102: what matches, with its binds: variables of both sides may be the same ones, those of the term stay as they are.
func TestGenerals(t *testing.T) {
	a, b, x, y, z := f("a"), f("b"), v(0), v(1), v(2)
	d := New()
	for id, in := range []api.Term{x, y, f("f", x, y), f("f", y, x), f("f", x, x), f("f", f("g", x), x), f("f", a, y), f("g", z)} {
		if errno := d.Insert(10-id, in); errno != api.OK {
			t.Fatalf("Insert: %d", errno)
		}
	}
	const fab, fxy = `"f"("a"(),"b"())`, `"f"(X0,X1)`
	wantGenerals(t, d, f("f", a, b), `4[1:"b"() ] 7[0:"b"() 1:"a"() ] 8[0:"a"() 1:"b"() ] 9[1:`+fab+` ] 10[0:`+fab+` ] `)
	wantGenerals(t, d, f("f", x, y), `7[0:X1 1:X0 ] 8[] 9[1:`+fxy+` ] 10[0:`+fxy+` ] `)
	wantGenerals(t, d, x, `9[1:X0 ] 10[] `)
	wantGenerals(t, d, y, `9[] 10[0:X1 ] `)
	wantGenerals(t, d, f("g", z), `3[] 9[1:"g"(X2) ] 10[0:"g"(X2) ] `)
	wantGenerals(t, d, f("f", f("g", x), x), `5[] 7[1:"g"(X0) ] 8[0:"g"(X0) 1:X0 ] 9[1:"f"("g"(X0),X0) ] 10[0:"f"("g"(X0),X0) ] `)
	wantGenerals(t, d, f("f", f("g", x), y), `7[0:X1 1:"g"(X0) ] 8[0:"g"(X0) ] 9[1:"f"("g"(X0),X1) ] 10[0:"f"("g"(X0),X1) ] `)
	wantGenerals(t, d, f("f", x, x), `6[] 7[1:X0 ] 8[1:X0 ] 9[1:"f"(X0,X0) ] 10[0:"f"(X0,X0) ] `)
	wantGenerals(t, d, f("f", y, y), `6[0:X1 ] 7[0:X1 ] 8[0:X1 ] 9[1:"f"(X1,X1) ] 10[0:"f"(X1,X1) ] `)
	wantRemove(t, d, 10, api.OK, 7, d.Nodes())
	wantGenerals(t, d, b, `9[1:"b"() ] `)
	wantRemove(t, d, 9, api.OK, 6, d.Nodes()-1)
	wantGenerals(t, d, b, "")
	wantGenerals(t, d, x, "")
	wantGenerals(t, d, f("f", a), "")
}

// P1102: variants have other numbers, one to one; what is only more general or less is none.
func TestVariants(t *testing.T) {
	a, x, y, z, last := f("a"), v(0), v(1), v(2), v(api.MaxVar-1)
	d := New()
	for id, in := range []api.Term{f("h", x, y, x), f("h", y, x, y), f("h", last, x, last), f("h", x, y, z), f("h", x, x, x), f("h", x, y, y), f("h", a, x, a), z, a} {
		if errno := d.Insert(-id, in); errno != api.OK {
			t.Fatalf("Insert: %d", errno)
		}
	}
	wantVariants(t, d, f("h", z, last, z), -2, -1, 0)
	wantVariants(t, d, f("h", x, y, x), -2, -1, 0)
	wantVariants(t, d, f("h", z, y, x), -3)
	wantVariants(t, d, f("h", last, last, last), -4)
	wantVariants(t, d, f("h", y, x, x), -5)
	wantVariants(t, d, f("h", x, x, y))
	wantVariants(t, d, f("h", a, last, a), -6)
	wantVariants(t, d, f("h", a, a, a))
	wantVariants(t, d, f("h", a, x, x))
	wantVariants(t, d, f("h", a, x))
	wantVariants(t, d, f("h"))
	wantVariants(t, d, last, -7)
	wantVariants(t, d, a, -8)
	wantVariants(t, d, f("b"))
}

// P1101, P1102: the greatest terms are kept and told, too.
func TestLimits(t *testing.T) {
	name, last := strings.Repeat("n", api.MaxName), v(api.MaxVar-1)
	next := 0
	d, m := New(), model{}
	list := []api.Term{
		flat(api.MaxNodes, v(0)), chain(api.MaxDepth, f("a")), f(name, many(api.MaxArgs, last)...), flat(api.MaxNodes, f("a")),
		apart(flat(api.MaxNodes, v(0)), &next), chain(api.MaxDepth, v(5)), f(name, many(api.MaxArgs-1, last)...), last, flat(api.MaxNodes-1, v(0)),
	}
	for id, in := range list {
		m[id] = in
		wantInsert(t, d, id, in, api.OK, id+1, m.nodes())
	}
	for _, in := range slices.Concat(list, []api.Term{f(name, many(api.MaxArgs, f("a"))...), f("f", many(api.MaxArgs, v(1))...), chain(api.MaxDepth-1, v(5))}) {
		wantAsked(t, d, m, in)
	}
	if len(d.Generals(list[3])) != 4 || len(d.Variants(list[4])) != 1 {
		t.Error("of the greatest term")
	}
	for id := range list {
		delete(m, id)
		wantRemove(t, d, id, api.OK, len(m), m.nodes())
	}
}

// P1102, P1103: all small terms are kept, and each is asked for: just what unify tells is told, with its binds.
func TestAllSmall(t *testing.T) {
	d, m := New(), model{}
	for id, in := range all(3, f("a"), v(0), v(1)) {
		m[-id] = in
		if errno := d.Insert(-id, in); errno != api.OK {
			t.Fatalf("Insert: %d", errno)
		}
	}
	if d.Nodes() != m.nodes() || d.Len() != len(m) {
		t.Errorf("Len %d, Nodes %d, not %d, %d", d.Len(), d.Nodes(), len(m), m.nodes())
	}
	generals, variants := 0, 0
	for _, in := range all(3, f("a"), v(0), v(2)) {
		wantAsked(t, d, m, in)
		wantUnify(t, d, m, in)
		generals += len(d.Generals(in))
		variants += len(d.Variants(in))
	}
	if generals < 3000 || variants < 300 {
		t.Errorf("only %d generals, %d variants", generals, variants)
	}
}

// wantUnify: each kept term is told just if unify.Match and unify.Variant say so, and with the binds it becomes the term.
func wantUnify(t *testing.T, d *Tree, m model, in api.Term) {
	t.Helper()
	hits, list := d.Generals(in), d.Variants(in)
	for id, kept := range m {
		binds, ok, errno := unify.Match(kept, in)
		at, there := slices.BinarySearchFunc(hits, id, func(h Hit, id int) int { return h.Id - id })
		if errno != api.OK || ok != there {
			t.Errorf("%s and %s: %d, Match %v, told %v", text(kept), text(in), errno, ok, there)
			continue
		}
		if there {
			whole, errno := subst.Apply(hits[at].Binds, kept)
			if errno != api.OK || !term.Same(whole, in) || !subst.Same(binds, hits[at].Binds) {
				t.Errorf("%s does not become %s by %s", text(kept), text(in), told(hits[at:at+1]))
			}
		}
		if _, there := slices.BinarySearch(list, id); there != unify.Variant(kept, in) {
			t.Errorf("%s a variant of %s: %v", text(kept), text(in), there)
		}
	}
}

// P1101, P1102: inserting, removing and asking by chance, held against the model.
func TestModel(t *testing.T) {
	r := rand.New(rand.NewSource(11))
	counts := map[string]int{}
	for range 80 {
		d, m := New(), model{}
		room := 1 + r.Intn(60)
		for range 300 {
			id, in := r.Intn(room)-3, someTerm(r, 4, 3)
			_, there := m[id]
			switch r.Intn(3) {
			case 0:
				want := api.ErrTwice
				if !there {
					m[id], want = in, api.OK
				}
				wantInsert(t, d, id, in, want, len(m), m.nodes())
				counts[fmt.Sprint("insert ", there)]++
			case 1:
				delete(m, id)
				want := api.ErrGone
				if there {
					want = api.OK
				}
				wantRemove(t, d, id, want, len(m), m.nodes())
				counts[fmt.Sprint("remove ", there, len(m) == 0)]++
			case 2:
				wantAsked(t, d, m, in)
				counts[fmt.Sprint("generals ", min(len(d.Generals(in)), 3))]++
				counts[fmt.Sprint("variants ", min(len(d.Variants(in)), 2))]++
			}
		}
		checkTree(t, d)
	}
	for _, way := range []string{"insert true", "insert false", "remove true true", "remove true false", "remove false true", "remove false false", "generals 0", "generals 1", "generals 2", "generals 3", "variants 0", "variants 1", "variants 2"} {
		if counts[way] < 20 {
			t.Errorf("%s comes %d times", way, counts[way])
		}
	}
}

// checkTree: are just the nodes there that are counted, and is each number at its end?
func checkTree(t *testing.T, d *Tree) {
	t.Helper()
	nodes, numbers := 0, 0
	var walk func(n *node)
	walk = func(n *node) {
		nodes++
		numbers += len(n.numbers)
		for key, child := range n.children {
			if child.key != key || child.parent != n || !child.needed() {
				t.Errorf("a node of %v that does not fit its parent, or that nobody needs", key)
			}
			walk(child)
		}
	}
	if d.root != nil {
		walk(d.root)
	}
	if nodes != d.Nodes() || numbers != d.Len() || numbers != len(d.terms) {
		t.Errorf("%d nodes, %d numbers, not %d, %d", nodes, numbers, d.Nodes(), d.Len())
	}
}

// P1103: two trees that keep the same answer the same, whatever came and went before, and in whatever order.
func TestHistory(t *testing.T) {
	r := rand.New(rand.NewSource(12))
	for range 60 {
		m := model{}
		for id := range r.Intn(30) {
			m[id] = someTerm(r, 4, 3)
		}
		straight, winding := New(), New()
		for _, id := range slices.Sorted(maps.Keys(m)) {
			straight.Insert(id, m[id])
		}
		for id := range m { // in the order of the map, which is another one each time
			for range r.Intn(4) {
				winding.Insert(100+r.Intn(20), someTerm(r, 4, 3))
				winding.Insert(id, someTerm(r, 5, 2))
				winding.Remove(id)
			}
			winding.Insert(id, m[id])
		}
		for id := range 20 {
			winding.Remove(100 + id)
		}
		if winding.Len() != straight.Len() || winding.Nodes() != straight.Nodes() || straight.Nodes() != m.nodes() {
			t.Errorf("Len %d, %d, Nodes %d, %d", straight.Len(), winding.Len(), straight.Nodes(), winding.Nodes())
		}
		for range 30 {
			in := someTerm(r, 4, 3)
			wantAsked(t, straight, m, in)
			wantAsked(t, winding, m, in)
		}
		checkTree(t, winding)
	}
}

// P1103: instances of what is kept, by chance, find it.
func TestNoneMissed(t *testing.T) {
	r := rand.New(rand.NewSource(13))
	d, m := New(), model{}
	for id := range 400 {
		m[id] = someTerm(r, 4, 3)
		d.Insert(id, m[id])
	}
	for range 400 {
		id := r.Intn(len(m))
		binds := []api.Bind{{Var: 0, T: f("g", someTerm(r, 3, 3))}, {Var: 1, T: someTerm(r, 3, 1)}, {Var: 2, T: f("a")}}
		in, errno := subst.Apply(binds, m[id])
		if errno != api.OK {
			t.Fatalf("Apply: %d", errno)
		}
		hits := d.Generals(in)
		if _, there := slices.BinarySearchFunc(hits, id, func(h Hit, id int) int { return h.Id - id }); !there {
			t.Errorf("%s misses %s", text(in), text(m[id]))
		}
		wantUnify(t, d, m, in)
	}
}

// P1101, P1102: two trees share nothing; what was handed in and is written into later does not count.
func TestApart(t *testing.T) {
	one, other := New(), New()
	in := f("f", f("g", v(0)), f("b"))
	wantInsert(t, one, 1, in, api.OK, 1, 5)
	wantInsert(t, other, 1, v(0), api.OK, 1, 2)
	wantInsert(t, other, 2, in, api.OK, 2, 6)
	spoil(in.Args)
	wantGenerals(t, one, f("f", f("g", f("a")), f("b")), `1[0:"a"() ] `)
	wantVariants(t, one, f("f", f("g", v(3)), f("b")), 1)
	wantRemove(t, one, 1, api.OK, 0, 0)
	wantGenerals(t, other, f("f", f("g", f("a")), f("b")), `1[0:"f"("g"("a"()),"b"()) ] 2[0:"a"() ] `)
	wantRemove(t, one, 2, api.ErrGone, 0, 0)
	wantRemove(t, other, 1, api.OK, 1, 5)
	wantRemove(t, other, 2, api.OK, 0, 0)
}

// P1102: no two lists of one answer share memory, nor does one with the term that was asked for; none of it is changed.
func TestHandedOut(t *testing.T) {
	spare := func() api.Term {
		inner := f("g", append(make([]api.Term, 0, 8), v(1), f("h", f("a")))...)
		return f("f", append(make([]api.Term, 0, 8), inner, inner)...)
	}
	look := func(in api.Term) string {
		inner := in.Args[0]
		return fmt.Sprint(in.Args[:cap(in.Args)], inner.Args[:cap(inner.Args)])
	}
	in, want := spare(), look(spare())
	d := New()
	for id, kept := range []api.Term{f("f", v(0), v(1)), f("f", v(0), v(0)), v(2), in} {
		d.Insert(id, kept)
	}
	const g = `"g"(X1,"h"("a"()))`
	each := []string{"0[0:" + g + " 1:" + g + " ] ", "1[0:" + g + " ] ", `2[2:"f"(` + g + "," + g + ") ] ", "3[] "}
	all := strings.Join(each, "")
	for first := range 3 {
		hits := d.Generals(in)
		if told(hits) != all {
			t.Fatalf("Generals: %s", told(hits))
		}
		spoil(hits[first].Binds[0].T.Args)
		for i, want := range each {
			if got := told(hits[i : i+1]); i != first && got != want {
				t.Errorf("lists of one answer share memory: %s, not %s", got, want)
			}
		}
		if first == 0 && text(hits[0].Binds[1].T) != g {
			t.Errorf("binds of one hit share memory: %s", told(hits))
		}
		wantGenerals(t, d, in, all)
		wantVariants(t, d, in, 3)
	}
	hits := d.Generals(in)
	spoil(hits[2].Binds[0].T.Args[0].Args)
	if text(hits[2].Binds[0].T.Args[1]) != g {
		t.Error("parts of one term share memory")
	}
	if got := look(in); got != want {
		t.Errorf("handed in: %s, then %s", want, got)
	}
}

// P1101: very many numbers come and go, of one path and of many, and each call ends soon.
func TestMany(t *testing.T) {
	const count = 200000
	begin := time.Now()
	for _, kinds := range []int{1, 1000, count} {
		d := New()
		name := func(id int) api.Term { return f("f", f(fmt.Sprint("n", id%kinds)), v(id)) }
		for id := count; id > 0; id-- {
			if d.Insert(id, name(id)) != api.OK {
				t.Fatalf("Insert(%d)", id)
			}
		}
		if d.Len() != count || d.Nodes() != 2+2*kinds {
			t.Fatalf("Len %d, Nodes %d", d.Len(), d.Nodes())
		}
		in := f("f", f("n0"), f("a"))
		hits := d.Generals(in)
		if len(hits) != count/kinds || hits[0].Id != kinds || hits[len(hits)-1].Id != count || len(d.Variants(name(0))) != count/kinds {
			t.Fatalf("%d hits", len(hits))
		}
		for id := range count {
			if d.Remove(id+1) != api.OK {
				t.Fatalf("Remove(%d)", id+1)
			}
		}
		if d.Len() != 0 || d.Nodes() != 0 || d.Generals(in) != nil {
			t.Fatalf("Len %d, Nodes %d", d.Len(), d.Nodes())
		}
	}
	if took := time.Since(begin); took > 2*time.Minute {
		t.Errorf("it took %v", took)
	}
}

// P1102: of patterns with a star or not at each place, all of which match, each is told once.
func TestEachOnce(t *testing.T) {
	const places = 12
	d := New()
	for id := range 1 << places {
		in := f("f")
		for k := range places {
			in.Args = append(in.Args, []api.Term{f("g", f("a")), v(k)}[id>>k&1])
		}
		if d.Insert(id, in) != api.OK {
			t.Fatalf("Insert(%d)", id)
		}
	}
	hits := d.Generals(f("f", many(places, f("g", f("a")))...))
	if len(hits) != 1<<places {
		t.Fatalf("%d hits", len(hits))
	}
	for id, hit := range hits {
		if hit.Id != id {
			t.Fatalf("%d at %d", hit.Id, id)
		}
		for _, bind := range hit.Binds {
			if id>>bind.Var&1 == 0 || text(bind.T) != `"g"("a"())` {
				t.Errorf("%s", told(hits[id:id+1]))
			}
		}
	}
	if wild := d.Generals(f("f", many(places, v(99))...)); len(wild) != 1 || wild[0].Id != 1<<places-1 || len(wild[0].Binds) != places {
		t.Errorf("of variables: %s", told(wild))
	}
}

// P1101: what is gone leaves nothing behind that a tree that is used for long would be full of.
func TestKeepsLittle(t *testing.T) {
	d := New()
	wantInsert(t, d, -1, v(0), api.OK, 1, 2)
	for id := range 1000 {
		d.Insert(id, f("f", f(fmt.Sprint("n", id)), v(0)))
		d.Remove(id)
	}
	checkTree(t, d)
	if d.Nodes() != 2 || len(d.root.children) != 1 {
		t.Errorf("%d nodes, %d children", d.Nodes(), len(d.root.children))
	}
	wantRemove(t, d, -1, api.OK, 0, 0)
	if d.root != nil || d.terms != nil {
		t.Error("an empty tree keeps something")
	}
}

// P1101: a name that is a piece of a long text does not keep the text.
func TestKeepsNoText(t *testing.T) {
	const count, length = 200, 1 << 20
	heap := func() uint64 {
		var stats runtime.MemStats
		runtime.GC()
		runtime.ReadMemStats(&stats)
		return stats.HeapAlloc
	}
	before := heap()
	d := New()
	for id := range count {
		long := strings.Repeat(string(rune('a'+id%26)), length)
		if errno := d.Insert(id, f(long[:3], f(long[:1+id%60]), v(id))); errno != api.OK {
			t.Fatalf("Insert: %d", errno)
		}
	}
	if after := heap(); after > before+count*length/4 {
		t.Errorf("%d bytes more", after-before)
	}
	if d.Len() != count {
		t.Errorf("Len %d", d.Len())
	}
}
