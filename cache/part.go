package cache

import (
	"slices"

	"assize/api"
	"assize/term"
)

// use: the key is the last used one of the tenant's part, which forgets another one if it has too many then.
func (c *Cache) use(tenant int, key string, clauses []api.Clause) {
	part := behind(c.parts[tenant], key)
	if len(part) > len(c.parts[tenant]) {
		c.enter(key, clauses)
	}
	if len(part) > c.most {
		c.leave(part[0])
		part = slices.Delete(part, 0, 1)
	}
	c.parts[tenant] = part
}

// behind: the list with that thing as its last one, wherever it stood, or if it stood nowhere.
func behind[T comparable](list []T, used T) []T {
	if at := slices.Index(list, used); at >= 0 {
		list = slices.Delete(list, at, at+1)
	}
	return append(list, used)
}

// enter: one more part has the key.
func (c *Cache) enter(key string, clauses []api.Clause) {
	c.entries[key] = entry{clauses: clauses, parts: c.entries[key].parts + 1}
}

// leave: one part less has the key.
func (c *Cache) leave(key string) {
	kept := c.entries[key]
	kept.parts--
	if kept.parts == 0 {
		delete(c.entries, key)
		return
	}
	c.entries[key] = kept
}

// copied: the clauses in new memory, since what is kept is handed out to others too.
func copied(list []api.Clause) []api.Clause {
	made := make([]api.Clause, 0, len(list))
	for _, c := range list {
		var own api.Clause
		for _, l := range c {
			own = append(own, api.Lit{Neg: l.Neg, L: copiedTerm(l.L), R: copiedTerm(l.R)})
		}
		made = append(made, own)
	}
	return made
}

func copiedTerm(t api.Term) api.Term {
	whole, _ := term.At(t, nil)
	return whole
}
