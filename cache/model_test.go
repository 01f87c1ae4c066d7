package cache

import (
	"slices"
	"testing"

	"assize/api"
	"assize/cnf"
	"assize/lits"
	"assize/syntax"
)

// model: the chapter's words as plainly as can be: each tenant's uses, all of them, of which the last ones that differ are its part.
type model struct {
	most int
	uses [][]string
}

// part: the keys that were used last, the last one first.
func (d *model) part(tenant int) []string {
	var keys []string
	if tenant < 0 || tenant >= len(d.uses) {
		return nil
	}
	for i := len(d.uses[tenant]) - 1; i >= 0 && len(keys) < d.most; i-- {
		if key := d.uses[tenant][i]; !slices.Contains(keys, key) {
			keys = append(keys, key)
		}
	}
	return keys
}

func (d *model) clauses(tenant int, f api.Formula) ([]api.Clause, api.Errno) {
	if tenant < 0 || tenant >= len(d.uses) {
		return nil, api.ErrArg
	}
	list, err := cnf.Clauses(f, 0)
	if err == api.OK {
		d.uses[tenant] = append(d.uses[tenant], plain(f))
	}
	return list, err
}

func (d *model) has(tenant int, f api.Formula) bool {
	return syntax.Right(f) == api.OK && len(syntax.Free(f)) == 0 && slices.Contains(d.part(tenant), plain(f))
}

func (d *model) stored() int {
	met := map[string]int{}
	for tenant := range d.uses {
		for _, key := range d.part(tenant) {
			met[key]++
		}
	}
	return len(met)
}

// pool: formulas that a script takes its own from: some that differ by names alone, and some that are wrong.
func (m maker) pool(t *testing.T) []api.Formula {
	var list []api.Formula
	for range 2 + m.Intn(7) {
		f := m.formula(1+m.Intn(5), nil)
		list = append(list, f)
		for range m.Intn(4) {
			list = append(list, m.renamed(f, nil))
		}
	}
	list = append(list, of(api.FFalse, ""), pred("p", fn("X")))
	for _, name := range []string{"no kind", "both", "great", "half free"} {
		list = append(list, wrong(t)[name])
	}
	return list
}

// P2001, P2002, P2003: scripts of calls by chance are answered as the model answers them.
func TestModel(t *testing.T) {
	m := newMaker(201)
	met := map[string]int{}
	for range 400 {
		tenants, most := 1+m.Intn(4), 1+m.Intn(4)
		c, d := made(t, tenants, most), &model{most, make([][]string, tenants)}
		pool := m.pool(t)
		for range 60 {
			tenant, f := m.Intn(tenants+2)-1, pick(m, pool)
			if m.Intn(3) > 0 {
				tenant = max(0, min(tenant, tenants-1))
			}
			d.counted(met, tenant, f)
			want, wantErr := d.clauses(tenant, f)
			got, err := c.Clauses(tenant, f)
			if err != wantErr || !slices.EqualFunc(got, want, lits.Equal) {
				t.Fatalf("Clauses(%d, %s): error %d\n%s\nnot error %d\n%s", tenant, syntax.Show(f), int(err), text(got), int(wantErr), text(want))
			}
			d.looksAlike(t, c, []api.Formula{f, pick(m, pool), pick(m, pool)})
		}
		d.looksAlike(t, c, pool)
	}
	for kind, least := range map[string]int{"again": 2000, "by other names": 500, "another's": 1000, "forgotten": 2000, "wrong": 1000, "no tenant": 1000, "first one back": 300} {
		if met[kind] < least {
			t.Errorf("%s: only %d", kind, met[kind])
		}
	}
}

// counted: of what kinds the call is that comes next.
func (d *model) counted(met map[string]int, tenant int, f api.Formula) {
	if tenant < 0 || tenant >= len(d.uses) {
		met["no tenant"]++
		return
	}
	if _, err := cnf.Clauses(f, 0); err != api.OK {
		met["wrong"]++
		return
	}
	part := d.part(tenant)
	switch at := slices.Index(part, plain(f)); {
	case at >= 0:
		met["again"]++
		if syntax.Show(f) != syntax.Show(syntax.Canon(f)) {
			met["by other names"]++
		}
		if at == d.most-1 && at > 0 {
			met["first one back"]++
		}
	case len(part) == d.most:
		met["forgotten"]++
		fallthrough
	default:
		for other := range d.uses {
			if other != tenant && d.has(other, f) {
				met["another's"]++
				break
			}
		}
	}
}

// looksAlike: all looks answer as the model does, of these formulas.
func (d *model) looksAlike(t *testing.T, c *Cache, forms []api.Formula) {
	t.Helper()
	for tenant := -1; tenant <= len(d.uses); tenant++ {
		for _, f := range forms {
			if got := c.Has(tenant, f); got != d.has(tenant, f) {
				t.Fatalf("Has(%d, %s): %v; uses %q", tenant, syntax.Show(f), got, d.uses)
			}
		}
		if got := c.Len(tenant); got != len(d.part(tenant)) {
			t.Fatalf("Len(%d): %d; uses %q", tenant, got, d.uses)
		}
	}
	if got := c.Stored(); got != d.stored() {
		t.Fatalf("Stored: %d, not %d; uses %q", got, d.stored(), d.uses)
	}
}

// P2002, P2004: clauses that were made for one formula are those of each that differs by names alone, where quantifiers have one another's names too.
func TestOtherNames(t *testing.T) {
	m := newMaker(202)
	c := made(t, 2, 1)
	met := map[string]int{}
	for range 4000 {
		f := m.formula(2+m.Intn(5), nil)
		if _, err := cnf.Clauses(f, 0); err != api.OK {
			continue
		}
		takes(t, c, 0, f)
		for range 3 {
			g := m.renamed(f, nil)
			if plain(f) != plain(g) || !c.Has(0, g) || c.Len(0) != 1 {
				t.Fatalf("%s is not %s", syntax.Show(g), syntax.Show(f))
			}
			list := takes(t, c, m.Intn(2), g)
			if !syntax.Same(f, g) {
				met["differs"]++
			}
			if len(list) > 1 {
				met["more than one"]++
			}
			if slices.ContainsFunc(list, hasSkolem) {
				met["Skolem"]++
			}
		}
	}
	for _, kind := range []string{"differs", "more than one", "Skolem"} {
		if met[kind] < 1000 {
			t.Errorf("%s: only %d", kind, met[kind])
		}
	}
}

func hasSkolem(c api.Clause) bool {
	var within func(t api.Term) bool
	within = func(t api.Term) bool {
		return len(t.Fn) > 1 && t.Fn[:2] == "$s" || slices.ContainsFunc(t.Args, within)
	}
	return slices.ContainsFunc(c, func(l api.Lit) bool { return within(l.L) || within(l.R) })
}

// P2002: formulas that differ by more than names have keys of their own.
func TestOwnKeys(t *testing.T) {
	m := newMaker(203)
	differ := 0
	for range 3000 {
		c := made(t, 1, 2)
		f, g := m.formula(1+m.Intn(3), nil), m.formula(1+m.Intn(3), nil)
		if m.Intn(2) == 0 {
			g = m.bent(f)
		}
		if _, err := cnf.Clauses(f, 0); err != api.OK {
			continue
		}
		takes(t, c, 0, f)
		alike := syntax.Right(g) == api.OK && len(syntax.Free(g)) == 0 && plain(f) == plain(g)
		if c.Has(0, g) != alike {
			t.Fatalf("%s and %s", syntax.Show(f), syntax.Show(g))
		}
		if !alike {
			differ++
		}
	}
	if differ < 1500 {
		t.Errorf("only %d differ", differ)
	}
}

// bent: the formula with something changed in one of its parts.
func (m maker) bent(f api.Formula) api.Formula {
	if len(f.Kids) > 0 && m.Intn(3) > 0 {
		at := m.Intn(len(f.Kids))
		f.Kids = slices.Clone(f.Kids)
		f.Kids[at] = m.bent(f.Kids[at])
		return f
	}
	switch f.Kind {
	case api.FAtom:
		if f.R.Fn == "$true" {
			f.L = fn(f.L.Fn, slices.Concat(f.L.Args, []api.Term{fn("a")})[m.Intn(2):]...)
			return f
		}
		f.L, f.R = f.R, f.L
	case api.FTrue, api.FFalse:
		f.Kind = api.FTrue + api.FFalse - f.Kind
	case api.FNot:
		return f.Kids[0]
	case api.FAll, api.FEx:
		f.Kind = api.FAll + api.FEx - f.Kind
	default:
		f.Kids = []api.Formula{f.Kids[1], f.Kids[0]}
	}
	return f
}
