package multi

import (
	"slices"

	"assize/kbo"
)

// extend: what comes of two multisets of things, by which of them are the same, and by their order.
func extend[T any](same func(a, b T) bool, order func(a, b T) int, m, n []T) int {
	m, n = apart(same, m, n)
	switch {
	case len(m) == 0 && len(n) == 0:
		return kbo.Equal
	case covers(order, m, n):
		return kbo.Greater
	case covers(order, n, m):
		return kbo.Less
	}
	return kbo.None
}

// apart: what is left of both behind taking away what both have, as often as both have it. Of what is left it does not
// count how often it stands, so things that stand side by side are left once.
func apart[T any](same func(a, b T) bool, m, n []T) (leftM, leftN []T) {
	leftN = slices.Clone(n)
	for _, a := range m {
		k := slices.IndexFunc(leftN, func(b T) bool { return same(a, b) })
		if k < 0 {
			leftM = append(leftM, a)
			continue
		}
		leftN = slices.Delete(leftN, k, k+1)
	}
	return slices.CompactFunc(leftM, same), slices.CompactFunc(leftN, same)
}

// covers: is each thing of n below some thing of m?
func covers[T any](order func(a, b T) int, m, n []T) bool {
	return !slices.ContainsFunc(n, func(b T) bool {
		return !slices.ContainsFunc(m, func(a T) bool { return order(a, b) == kbo.Greater })
	})
}
