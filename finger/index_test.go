package finger

import (
	"fmt"
	"maps"
	"math"
	"math/rand"
	"slices"
	"strings"
	"testing"
	"time"

	"assize/api"
	"assize/unify"
)

// wantInsert, wantRemove: what is answered, and how many there are then.
func wantInsert(t *testing.T, x *Index, id int, in api.Term, want api.Errno, size int) {
	t.Helper()
	if got := x.Insert(id, in); got != want || x.Len() != size {
		t.Errorf("Insert(%d, %.200s): %d, Len %d, not %d, Len %d", id, text(in), got, x.Len(), want, size)
	}
}

func wantRemove(t *testing.T, x *Index, id int, want api.Errno, size int) {
	t.Helper()
	if got := x.Remove(id); got != want || x.Len() != size {
		t.Errorf("Remove(%d): %d, Len %d, not %d, Len %d", id, got, x.Len(), want, size)
	}
}

// asked: what the three answer of a term, twice, the first time in memory that is written into.
func asked(t *testing.T, x *Index, in api.Term) string {
	t.Helper()
	tell := func() string {
		lists := [][]int{x.Unifiable(in), x.Generals(in), x.Instances(in)}
		told := fmt.Sprint(lists)
		for _, list := range lists {
			for i := range list[:cap(list)] {
				list[:cap(list)][i] = -7
			}
		}
		return told
	}
	first := tell()
	if again := tell(); again != first {
		t.Errorf("asked of %.200s: %s, then %s", text(in), first, again)
	}
	return first
}

// wantAsked: the three answers, the unifiable ones first, then the generals, the instances.
func wantAsked(t *testing.T, x *Index, in api.Term, want string) {
	t.Helper()
	if got := asked(t, x, in); got != want {
		t.Errorf("asked of %.200s: %s, not %s", text(in), got, want)
	}
}

// modelAsked: the same, by looking at each term that is kept, by the chapter's words.
func modelAsked(kept map[int]api.Term, in api.Term) string {
	lists := make([][]int, 3)
	for _, id := range slices.Sorted(maps.Keys(kept)) {
		a, b := modelOf(kept[id]), modelOf(in)
		for i, fits := range []bool{everywhere(a, b, modelUnifies), everywhere(a, b, modelMatches), everywhere(b, a, modelMatches)} {
			if fits {
				lists[i] = append(lists[i], id)
			}
		}
	}
	return fmt.Sprint(lists)
}

// P1002: ordinary terms; numbers rise, whatever the order they came in.
func TestIndex(t *testing.T) {
	a, b, x, y := f("a"), f("b"), v(0), v(1)
	i := New()
	wantAsked(t, i, a, "[[] [] []]")
	wantInsert(t, i, 9, f("f", a, x), api.OK, 1)
	wantInsert(t, i, 2, f("f", x, x), api.OK, 2)
	wantInsert(t, i, 5, a, api.OK, 3)
	wantInsert(t, i, 4, f("f", f("g", x), b), api.OK, 4)
	wantInsert(t, i, 7, y, api.OK, 5)
	wantInsert(t, i, 1, f("f", a, y), api.OK, 6)
	wantAsked(t, i, f("f", a, a), "[[1 2 7 9] [1 2 7 9] []]")
	wantAsked(t, i, f("f", a, y), "[[1 2 7 9] [1 2 7 9] [1 9]]")
	wantAsked(t, i, f("f", x, y), "[[1 2 4 7 9] [2 7] [1 2 4 9]]")
	wantAsked(t, i, x, "[[1 2 4 5 7 9] [7] [1 2 4 5 7 9]]")
	wantAsked(t, i, f("f", f("g", a), y), "[[2 4 7] [2 7] []]")
	wantAsked(t, i, f("f", f("g", x), y), "[[2 4 7] [2 7] [4]]")
	wantAsked(t, i, a, "[[5 7] [5 7] [5]]")
	wantAsked(t, i, b, "[[7] [7] []]")
	wantAsked(t, i, f("a", a), "[[7] [7] []]")
	wantRemove(t, i, 7, api.OK, 5)
	wantRemove(t, i, 9, api.OK, 4)
	wantAsked(t, i, f("f", a, y), "[[1 2] [1 2] [1]]")
	wantAsked(t, i, f("a", a), "[[] [] []]")
}

// P1002: numbers of the whole range; one that is there stays as it is; one that is gone may come back as another term.
func TestIndexNumbers(t *testing.T) {
	a, b := f("a"), f("b")
	i := New()
	ids := []int{0, math.MaxInt, -1, math.MinInt, 1, -5, 1 << 32}
	for n, id := range ids {
		wantRemove(t, i, id, api.ErrGone, n)
		wantInsert(t, i, id, a, api.OK, n+1)
		wantInsert(t, i, id, a, api.ErrTwice, n+1)
		wantInsert(t, i, id, b, api.ErrTwice, n+1)
	}
	rising := fmt.Sprint(slices.Sorted(slices.Values(ids)))
	wantAsked(t, i, a, fmt.Sprintf("[%s %s %s]", rising, rising, rising))
	wantAsked(t, i, b, "[[] [] []]")
	wantRemove(t, i, 2, api.ErrGone, 7)
	wantRemove(t, i, -1, api.OK, 6)
	wantRemove(t, i, -1, api.ErrGone, 6)
	wantInsert(t, i, -1, b, api.OK, 7)
	wantAsked(t, i, b, "[[-1] [-1] [-1]]")
	wantInsert(t, i, -1, a, api.ErrTwice, 7)
	wantAsked(t, i, b, "[[-1] [-1] [-1]]")
	for n, id := range ids {
		wantRemove(t, i, id, api.OK, 6-n)
		wantRemove(t, i, id, api.ErrGone, 6-n)
	}
	wantAsked(t, i, v(0), "[[] [] []]")
	wantInsert(t, i, 1, b, api.OK, 1)
	wantAsked(t, i, v(0), "[[1] [] [1]]")
}

// P1002: terms that are not right, ahead of whether the number is there; nothing changes.
func TestIndexWrong(t *testing.T) {
	i := New()
	wantInsert(t, i, 1, f("a"), api.OK, 1)
	wantInsert(t, i, 2, v(0), api.OK, 2)
	for _, bad := range wrongTerms() {
		wantInsert(t, i, 1, bad, api.ErrArg, 2)
		wantInsert(t, i, 3, bad, api.ErrArg, 2)
		wantAsked(t, i, bad, "[[] [] []]")
		wantRemove(t, i, 3, api.ErrGone, 2)
	}
	wantAsked(t, i, f("a"), "[[1 2] [1 2] [1]]")
}

// P1002: of nil.
func TestIndexNil(t *testing.T) {
	var i *Index
	wantInsert(t, i, 1, f("a"), api.ErrNil, 0)
	wantInsert(t, i, 1, v(-1), api.ErrNil, 0)
	wantRemove(t, i, 1, api.ErrNil, 0)
	wantAsked(t, i, f("a"), "[[] [] []]")
	wantAsked(t, i, v(0), "[[] [] []]")
	wantAsked(t, i, v(-1), "[[] [] []]")
}

// P1002: two indexes share nothing; what was handed in and is written into later does not count.
func TestIndexApart(t *testing.T) {
	one, other := New(), New()
	in := f("f", f("a"), f("b"))
	wantInsert(t, one, 1, in, api.OK, 1)
	wantInsert(t, other, 1, v(0), api.OK, 1)
	wantInsert(t, other, 2, in, api.OK, 2)
	in.Args[0], in.Args[1] = v(0), f("c")
	wantAsked(t, one, f("f", f("a"), f("b")), "[[1] [1] [1]]")
	wantAsked(t, one, f("f", f("a"), f("c")), "[[] [] []]")
	wantAsked(t, one, f("f", v(0), f("c")), "[[] [] []]")
	wantRemove(t, one, 1, api.OK, 0)
	wantAsked(t, other, f("f", f("a"), f("b")), "[[1 2] [1 2] [2]]")
	wantRemove(t, one, 2, api.ErrGone, 0)
}

// P1002: the greatest terms are kept, too.
func TestIndexLimits(t *testing.T) {
	i := New()
	name := strings.Repeat("n", api.MaxName)
	wantInsert(t, i, 1, flat(api.MaxNodes, v(0)), api.OK, 1)
	wantInsert(t, i, 2, chain(api.MaxDepth, f("a")), api.OK, 2)
	wantInsert(t, i, 3, f(name, many(api.MaxArgs, v(api.MaxVar-1))...), api.OK, 3)
	wantAsked(t, i, flat(api.MaxNodes, v(0)), "[[1] [1] [1]]")
	wantAsked(t, i, chain(api.MaxDepth, v(0)), "[[2] [2] [2]]")
	wantAsked(t, i, f(name, many(api.MaxArgs, f("a"))...), "[[3] [3] []]")
	wantAsked(t, i, f(name, many(api.MaxArgs-1, f("a"))...), "[[] [] []]")
}

// P1002: inserting, removing and asking by chance, held against a plain list of what is there.
func TestIndexModel(t *testing.T) {
	r := rand.New(rand.NewSource(13))
	counts := map[string]int{}
	for range 60 {
		i, kept := New(), map[int]api.Term{}
		room := 1 + r.Intn(60)
		for range 300 {
			id, in := r.Intn(room)-3, someTerm(r, 4, 0, 3)
			_, there := kept[id]
			switch r.Intn(3) {
			case 0:
				if there {
					wantInsert(t, i, id, in, api.ErrTwice, len(kept))
					break
				}
				kept[id] = in
				wantInsert(t, i, id, in, api.OK, len(kept))
			case 1:
				delete(kept, id)
				want := api.ErrGone
				if there {
					want = api.OK
				}
				wantRemove(t, i, id, want, len(kept))
				counts[fmt.Sprint("remove ", there, len(kept) == 0)]++
			case 2:
				wantAsked(t, i, in, modelAsked(kept, in))
			}
		}
	}
	for _, way := range []string{"remove true true", "remove true false", "remove false true", "remove false false"} {
		if counts[way] < 20 {
			t.Errorf("%s comes %d times", way, counts[way])
		}
	}
}

// P1002, P1003: no term that has a unifier, that matches, or that is matched is missed by the index.
func TestIndexNoneMissed(t *testing.T) {
	r := rand.New(rand.NewSource(14))
	i, kept := New(), map[int]api.Term{}
	for id := range 400 {
		kept[id] = someTerm(r, 4, 0, 3)
		wantInsert(t, i, id, kept[id], api.OK, id+1)
	}
	found := [3]int{}
	for range 300 {
		in := someTerm(r, 4, 3, 3)
		lists := [3][]int{i.Unifiable(in), i.Generals(in), i.Instances(in)}
		for id, other := range kept {
			_, unifies, errno := unify.Unify(in, other)
			_, general, _ := unify.Match(other, in)
			_, instance, _ := unify.Match(in, other)
			for k, is := range [3]bool{unifies || errno == api.ErrBig, general, instance} {
				if _, there := slices.BinarySearch(lists[k], id); is && !there {
					t.Errorf("list %d of %s misses %s", k, text(in), text(other))
				}
				if is {
					found[k]++
				}
			}
		}
	}
	if slices.Min(found[:]) < 1000 {
		t.Errorf("found: %v", found)
	}
}

// P1002: very many numbers come and go, of one fingerprint and of many, and each call ends soon.
func TestIndexMany(t *testing.T) {
	const count = 300000
	begin := time.Now()
	for _, kinds := range []int{1, 1000} {
		i := New()
		name := func(id int) api.Term { return f(fmt.Sprint("n", id%kinds), v(id)) }
		for id := count; id > 0; id-- {
			if i.Insert(id, name(id)) != api.OK {
				t.Fatalf("Insert(%d)", id)
			}
		}
		list := i.Instances(v(0))
		if len(list) != count || i.Len() != count || !slices.IsSorted(list) || list[0] != 1 || list[count-1] != count {
			t.Fatalf("%d numbers of %d, sorted: %v", len(list), i.Len(), slices.IsSorted(list))
		}
		for _, id := range list {
			if i.Remove(id) != api.OK {
				t.Fatalf("Remove(%d)", id)
			}
		}
		wantAsked(t, i, v(0), "[[] [] []]")
	}
	if took := time.Since(begin); took > 2*time.Minute {
		t.Errorf("it took %v", took)
	}
}

// P1002: what is gone leaves nothing behind that an index that is used for long would be full of.
func TestIndexKeepsLittle(t *testing.T) {
	i := New()
	wantInsert(t, i, -1, v(0), api.OK, 1)
	for id := range 1000 {
		i.Insert(id, f(fmt.Sprint("n", id)))
		i.Remove(id)
	}
	if len(i.groups) != 1 || len(i.holders) != 1 {
		t.Errorf("%d groups, %d numbers", len(i.groups), len(i.holders))
	}
}
