package cache

import (
	"fmt"
	"slices"
	"sync"
	"testing"

	"assize/api"
	"assize/cnf"
	"assize/lits"
	"assize/syntax"
)

// event: one call of a tenant.
type event struct {
	tenant int
	f      api.Formula
}

// seen: what the tenant is told by its call, and sees by all looks then.
func seen(c *Cache, e event, pool []api.Formula) string {
	list, err := c.Clauses(e.tenant, e.f)
	return fmt.Sprint(text(list), int(err), has(c, e.tenant, pool...), c.Len(e.tenant))
}

// P2004: what a tenant sees is the same, whatever the others do, and whether there are others.
func TestTenantsApart(t *testing.T) {
	m := newMaker(204)
	for range 250 {
		most := 1 + m.Intn(3)
		pool := m.pool(t)
		var own []event
		for range 25 {
			own = append(own, event{0, pick(m, pool)})
		}
		var want []string
		alone := made(t, 1, most)
		for _, e := range own {
			want = append(want, seen(alone, e, pool))
		}
		for range 2 {
			tenants := 2 + m.Intn(3)
			c, me := made(t, tenants, most), m.Intn(tenants)
			for i, e := range own {
				for range m.Intn(6) {
					other := (me + 1 + m.Intn(tenants-1)) % tenants
					seen(c, event{other, pick(m, pool)}, pool[:1])
				}
				if got := seen(c, event{me, e.f}, pool); got != want[i] {
					t.Fatalf("%s: %s, not %s", syntax.Show(e.f), got, want[i])
				}
			}
		}
	}
}

// P2004: calls of others between two looks change none of them.
func TestLooksApart(t *testing.T) {
	m := newMaker(205)
	for range 200 {
		c, pool := made(t, 3, 1+m.Intn(3)), m.pool(t)
		for range 8 {
			c.Clauses(1, pick(m, pool))
		}
		before := fmt.Sprint(has(c, 1, pool...), c.Len(1))
		for range 20 {
			c.Clauses(2*m.Intn(2), pick(m, pool))
			if after := fmt.Sprint(has(c, 1, pool...), c.Len(1)); after != before {
				t.Fatalf("%s, not %s", after, before)
			}
		}
	}
}

// P2004: Clauses answers the same of a key that was never there, is there, was forgotten, or is another one's.
func TestThereOrNot(t *testing.T) {
	m := newMaker(206)
	for range 500 {
		f, g := m.formula(5, nil), m.formula(2, nil)
		if _, err := cnf.Clauses(f, 0); err != api.OK {
			continue
		}
		c := made(t, 3, 1)
		for _, tenant := range []int{0, 0, 1, 0, 1} {
			takes(t, c, tenant, f)
		}
		c.Clauses(0, g)
		takes(t, c, 0, f)
		c.Clauses(0, g)
		c.Clauses(1, g)
		takes(t, c, 2, m.renamed(f, nil))
	}
}

// roomyTerm, roomy: the same in new memory, with spare room that has something in it.
func roomyTerm(t api.Term) api.Term {
	var args []api.Term
	for _, arg := range t.Args {
		args = append(args, roomyTerm(arg))
	}
	t.Args = append(args, fn("spare"), fn("spare"))[:len(args)]
	return t
}

func roomy(f api.Formula) api.Formula {
	var kids []api.Formula
	for _, kid := range f.Kids {
		kids = append(kids, roomy(kid))
	}
	f.L, f.R, f.Kids = roomyTerm(f.L), roomyTerm(f.R), append(kids, pred("spare"), pred("spare"))[:len(kids)]
	return f
}

// wholeTerm, whole: all that the lists have, their spare room too, as a text.
func wholeTerm(t api.Term) string {
	told := fmt.Sprint(t.Var, t.Fn, len(t.Args))
	for _, arg := range t.Args[:cap(t.Args)] {
		told += "," + wholeTerm(arg)
	}
	return told + ")"
}

func whole(f api.Formula) string {
	told := fmt.Sprint(f.Kind, f.Name, len(f.Kids)) + wholeTerm(f.L) + wholeTerm(f.R)
	for _, kid := range f.Kids[:cap(f.Kids)] {
		told += ";" + whole(kid)
	}
	return told + "}"
}

// spoil: writes over all that a formula is made of.
func spoil(f api.Formula) {
	for i, kid := range f.Kids[:cap(f.Kids)] {
		spoil(kid)
		f.Kids[i : i+1][0] = pred("spoilt")
	}
	spoilTerm(f.L)
	spoilTerm(f.R)
}

var bad = fn("spoilt") // what is written over all that is handed out

// spoilTerm, spoilAll: write over all lists, their spare room too, and tell whether one of them was written over before.
func spoilTerm(t api.Term) (twice bool) {
	all := t.Args[:cap(t.Args)]
	for i := range all {
		twice = all[i].Fn == bad.Fn || spoilTerm(all[i]) || twice
		all[i] = bad
	}
	return twice
}

func spoilAll(list []api.Clause) (twice bool) {
	list = list[:cap(list)]
	for i, c := range list {
		all := c[:cap(c)]
		for k, l := range all {
			left, right := spoilTerm(l.L), spoilTerm(l.R)
			twice = twice || l.L.Fn == bad.Fn || left || right
			all[k] = api.Lit{L: bad, R: bad}
		}
		list[i] = nil
	}
	return twice
}

// Rule 4: what is handed in is not changed, and not kept.
func TestHandedIn(t *testing.T) {
	m := newMaker(207)
	for range 600 {
		c := made(t, 2, 2)
		plain := m.formula(4, nil)
		f := roomy(plain)
		before := whole(f)
		want, err := c.Clauses(0, f)
		c.Has(0, f)
		c.Has(1, f)
		c.Clauses(1, f)
		c.Clauses(0, f)
		if whole(f) != before {
			t.Fatalf("%s is changed", syntax.Show(plain))
		}
		spoil(f)
		if got, again := c.Clauses(0, plain); again != err || !slices.EqualFunc(got, want, lits.Equal) || c.Has(1, plain) != (err == api.OK) {
			t.Fatalf("%s is kept", syntax.Show(plain))
		}
	}
}

// Rule 4: what is handed out is new memory each time, and no two lists of it share any; nobody sees what is written there.
func TestHandedOut(t *testing.T) {
	m := newMaker(208)
	shared := 0
	for range 600 {
		c := made(t, 2, 2)
		f := roomy(m.formula(5, nil))
		want, err := cnf.Clauses(f, 0)
		for _, tenant := range []int{0, 0, 1, 0, 1} {
			one, wrong := c.Clauses(tenant, f)
			two, _ := c.Clauses(tenant, f)
			if wrong != err || !slices.EqualFunc(one, want, lits.Equal) || spoilAll(one) {
				t.Fatalf("%s: error %d, %s, or lists of it share memory", syntax.Show(f), int(wrong), text(one))
			}
			if !slices.EqualFunc(two, want, lits.Equal) || spoilAll(two) {
				t.Fatalf("%s: %s is changed by what was written into another answer", syntax.Show(f), text(two))
			}
			shared += len(want)
		}
	}
	if shared < 3000 {
		t.Errorf("only %d clauses", shared)
	}
}

// Rule 5: two caches share nothing, also where they are used side by side.
func TestCachesApart(t *testing.T) {
	m := newMaker(209)
	pool := m.pool(t)
	var script []event
	for range 200 {
		script = append(script, event{m.Intn(3), pick(m, pool)})
	}
	answers := func() string {
		c, err := New(2, 2)
		out := fmt.Sprint(int(err))
		for _, e := range script {
			out += seen(c, e, pool) + fmt.Sprint(c.Stored())
		}
		return out
	}
	want := answers()
	var all sync.WaitGroup
	for range 8 {
		all.Go(func() {
			if answers() != want {
				t.Error("side by side something else")
			}
		})
	}
	all.Wait()
}

// Rule 3: a list without an element may be nil or empty.
func TestNoList(t *testing.T) {
	c := made(t, 1, 2)
	f := read(t, "p(a)")
	g := of(api.FAtom, "")
	g.Kids = []api.Formula{}
	g.L, g.R = api.Term{Fn: "@p", Args: []api.Term{{Fn: "a", Args: []api.Term{}}}}, api.Term{Fn: "$true", Args: []api.Term{}}
	takes(t, c, 0, f)
	looks(t, c, 0, []api.Formula{f, g}, "11", 1, 1)
	takes(t, c, 0, g)
	looks(t, c, 0, []api.Formula{f, g}, "11", 1, 1)
}
