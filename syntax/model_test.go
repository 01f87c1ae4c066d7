package syntax

import (
	"iter"
	"maps"
	"slices"
	"strings"
	"testing"

	"assize/api"
)

// mark: a token of the model's texts: its class (N a name, V a variable, else the sign itself), and what it says.
type mark struct{ class, says string }

func marksOf(classes string) []mark {
	var list []mark
	for _, class := range strings.Fields(classes) {
		list = append(list, mark{class, class})
	}
	return list
}

// written: tokens as a text, and the places of all of them, and of the text's end.
func written(tokens []mark, gap string) (string, []int) {
	var b strings.Builder
	var places []int
	for _, token := range tokens {
		b.WriteString(gap)
		places = append(places, b.Len())
		b.WriteString(token.says)
		b.WriteString(" ")
	}
	return b.String(), append(places, b.Len())
}

// grammar: the chapter's words about texts, as rules.
func grammar() map[string][]string {
	return map[string][]string{
		"Formula":  {"Unary", "Unary => Unary", "Unary <=> Unary", "Ands", "Ors"},
		"Ands":     {"Unary & Unary", "Ands & Unary"},
		"Ors":      {"Unary | Unary", "Ors | Unary"},
		"Unary":    {"~ Unary", "! [ Vars ] : Unary", "? [ Vars ] : Unary", "( Formula )", "$true", "$false", "Function", "Term = Term", "Term != Term"},
		"Vars":     {"V", "Vars , V"},
		"Term":     {"V", "Function"},
		"Function": {"N", "N ( Terms )"},
		"Terms":    {"Term", "Terms , Term"},
	}
}

// item: of Earley's way to read: a rule, how far it was read, and behind how many tokens it began.
type item struct {
	head, body string
	done, from int
}

// chart: behind each token the items that the tokens so far allow.
// It goes on as long as some text begins with them: so it tells the first token with which none does.
type chart struct {
	rules map[string][]string
	sets  []map[item]int
}

func newChart() chart {
	c := chart{rules: grammar(), sets: []map[item]int{{}}}
	for _, body := range c.rules["Formula"] {
		c.add(0, item{"Formula", body, 0, 0})
	}
	return c
}

func (c chart) add(at int, one item) {
	if _, there := c.sets[at][one]; there {
		return
	}
	c.sets[at][one] = 1
	parts := strings.Fields(one.body)
	if one.done == len(parts) {
		for _, waits := range slices.Collect(maps.Keys(c.sets[one.from])) {
			if rest := strings.Fields(waits.body); waits.done < len(rest) && rest[waits.done] == one.head {
				c.add(at, item{waits.head, waits.body, waits.done + 1, waits.from})
			}
		}
		return
	}
	for _, body := range c.rules[parts[one.done]] {
		c.add(at, item{parts[one.done], body, 0, at})
	}
}

// with: the chart behind one more token; false: no text goes on with it.
func (c chart) with(class string) (chart, bool) {
	next := chart{c.rules, append(slices.Clone(c.sets), map[item]int{})}
	for one := range c.sets[len(c.sets)-1] {
		if parts := strings.Fields(one.body); one.done < len(parts) && parts[one.done] == class {
			next.add(len(c.sets), item{one.head, one.body, one.done + 1, one.from})
		}
	}
	return next, len(next.sets[len(c.sets)]) > 0
}

// whole: are the tokens so far a text?
func (c chart) whole() bool {
	for one := range c.sets[len(c.sets)-1] {
		if one.head == "Formula" && one.from == 0 && one.done == len(strings.Fields(one.body)) {
			return true
		}
	}
	return false
}

// misfits: the number of the first token that does not fit (how many there are, if there are too few), or below 0.
func misfits(tokens []mark) int {
	c := newChart()
	for i, token := range tokens {
		next, ok := c.with(token.class)
		if !ok {
			return i
		}
		c = next
	}
	if !c.whole() {
		return len(tokens)
	}
	return -1
}

// said: what tokens say: a formula or terms, and which of the tokens are free variables, in order.
type said struct {
	f     api.Formula
	terms []api.Term
	free  []int
}

// span: some of the tokens, to be read as something.
type span struct {
	as       string
	from, to int
}

// sayer: all that tokens can say, by the words: each way to part them is tried.
type sayer struct {
	tokens []mark
	known  map[span][]said
}

// all: what the tokens can say; just one, if the words leave no choice.
func (s sayer) all() []said { return s.read(span{"formula", 0, len(s.tokens)}) }

func (s sayer) read(w span) []said {
	if w.from >= w.to {
		return nil
	}
	if list, ok := s.known[w]; ok {
		return list
	}
	var list []said
	switch w.as {
	case "formula":
		list = slices.Concat(s.read(span{"unary", w.from, w.to}), s.read(span{"=>", w.from, w.to}), s.read(span{"<=>", w.from, w.to}),
			s.read(span{"&", w.from, w.to}), s.read(span{"|", w.from, w.to}))
	case "unary":
		list = s.unary(w)
	case "term":
		list = s.term(w)
	case "terms":
		list = slices.Concat(s.read(span{"term", w.from, w.to}), slices.Collect(s.parted(w, ",", "terms", "term", joinTerms)))
	default:
		kind := map[string]int{"=>": api.FImp, "<=>": api.FIff, "&": api.FAnd, "|": api.FOr}[w.as]
		join := func(l, r said) said { return said{f: of(kind, "", l.f, r.f), free: slices.Concat(l.free, r.free)} }
		list = slices.Collect(s.parted(w, w.as, "unary", "unary", join))
		if kind == api.FAnd || kind == api.FOr {
			list = slices.AppendSeq(list, s.parted(w, w.as, w.as, "unary", join))
		}
	}
	s.known[w] = list
	return list
}

// parted: all ways to part the tokens at such a sign, and to read what is on its left and on its right.
func (s sayer) parted(w span, sign, left, right string, join func(l, r said) said) iter.Seq[said] {
	return func(yield func(said) bool) {
		for at := w.from; at < w.to; at++ {
			if s.tokens[at].class != sign {
				continue
			}
			for _, l := range s.read(span{left, w.from, at}) {
				for _, r := range s.read(span{right, at + 1, w.to}) {
					if !yield(join(l, r)) {
						return
					}
				}
			}
		}
	}
}

func joinTerms(l, r said) said {
	return said{terms: slices.Concat(l.terms, r.terms), free: slices.Concat(l.free, r.free)}
}

func (s sayer) unary(w span) []said {
	var list []said
	switch first, last := s.tokens[w.from].class, s.tokens[w.to-1].class; {
	case first == "~":
		for _, kid := range s.read(span{"unary", w.from + 1, w.to}) {
			list = append(list, said{f: not(kid.f), free: kid.free})
		}
	case first == "!" || first == "?":
		list = s.quantified(w)
	case first == "(" && last == ")":
		list = s.read(span{"formula", w.from + 1, w.to - 1})
	case first == "$true" && w.to == w.from+1:
		list = []said{{f: yes()}}
	case first == "$false" && w.to == w.from+1:
		list = []said{{f: no()}}
	case first == "N":
		for _, l := range s.read(span{"term", w.from, w.to}) {
			list = append(list, said{f: pred(l.terms[0].Fn, l.terms[0].Args...), free: l.free})
		}
	}
	for sides := range s.parted(w, "=", "term", "term", joinTerms) {
		list = append(list, said{f: eq(sides.terms[0], sides.terms[1]), free: sides.free})
	}
	for sides := range s.parted(w, "!=", "term", "term", joinTerms) {
		list = append(list, said{f: not(eq(sides.terms[0], sides.terms[1])), free: sides.free})
	}
	return list
}

func (s sayer) quantified(w span) []said {
	kind := map[string]int{"!": api.FAll, "?": api.FEx}[s.tokens[w.from].class]
	var list []said
	for at := w.from + 3; at+1 < w.to; at++ {
		names, ok := s.variables(w.from+1, at)
		if !ok || s.tokens[at].class != ":" {
			continue
		}
		for _, kid := range s.read(span{"unary", at + 1, w.to}) {
			whole := said{f: kid.f}
			for _, name := range slices.Backward(names) {
				whole.f = of(kind, name, whole.f)
			}
			for _, i := range kid.free {
				if !slices.Contains(names, s.tokens[i].says) {
					whole.free = append(whole.free, i)
				}
			}
			list = append(list, whole)
		}
	}
	return list
}

// variables: the names of such tokens, which are a list of variables in brackets.
func (s sayer) variables(from, to int) ([]string, bool) {
	var names []string
	shape := ""
	for _, token := range s.tokens[from:to] {
		shape += token.class
		if token.class == "V" {
			names = append(names, token.says)
		}
	}
	return names, len(names) > 0 && shape == "["+strings.Repeat("V,", len(names)-1)+"V]"
}

func (s sayer) term(w span) []said {
	first := s.tokens[w.from]
	switch {
	case first.class == "V" && w.to == w.from+1:
		return []said{{terms: []api.Term{fn(first.says)}, free: []int{w.from}}}
	case first.class == "N" && w.to == w.from+1:
		return []said{{terms: []api.Term{fn(first.says)}}}
	case first.class == "N" && s.tokens[w.from+1].class == "(" && s.tokens[w.to-1].class == ")":
		var list []said
		for _, args := range s.read(span{"terms", w.from + 2, w.to - 1}) {
			list = append(list, said{terms: []api.Term{fn(first.says, args.terms...)}, free: args.free})
		}
		return list
	}
	return nil
}

// disjuncts: of what FOr is made.
func disjuncts(f api.Formula) []api.Formula {
	if f.Kind != api.FOr {
		return []api.Formula{f}
	}
	return slices.Concat(disjuncts(f.Kids[0]), disjuncts(f.Kids[1]))
}

// asModel: do Fof and Cnf answer as the words ask? misfit: the number of the token that does not fit, or below 0. Limits are not met.
func asModel(t *testing.T, tokens []mark, gap string, misfit int) {
	t.Helper()
	s, places := written(tokens, gap)
	fof, cnf := told(Fof(s)), told(Cnf(s))
	ways := sayer{tokens, map[span][]said{}}.all()
	if len(ways) > 1 || (len(ways) == 1) != (misfit < 0) {
		t.Fatalf("%q: the model reads it %d ways, and %d does not fit", s, len(ways), misfit)
	}
	if misfit >= 0 {
		want := told(api.Formula{}, places[misfit], api.ErrSyntax)
		if fof != want || cnf != want {
			t.Fatalf("%q: Fof: %s, Cnf: %s, not %s", s, fof, cnf, want)
		}
		return
	}
	way := ways[0]
	wantFof, wantCnf := told(way.f, 0, api.OK), told(api.Formula{}, 0, api.ErrSyntax)
	if len(way.free) > 0 {
		wantFof = told(api.Formula{}, places[way.free[0]], api.ErrFree)
	}
	if !slices.ContainsFunc(disjuncts(way.f), func(f api.Formula) bool {
		return f.Kind != api.FAtom && f.Kind != api.FTrue && f.Kind != api.FFalse && !(f.Kind == api.FNot && f.Kids[0].Kind == api.FAtom)
	}) {
		wantCnf = told(closed(way, tokens), 0, api.OK)
	}
	if fof != wantFof || cnf != wantCnf {
		t.Fatalf("%q: Fof: %s, not %s; Cnf: %s, not %s", s, fof, wantFof, cnf, wantCnf)
	}
}

// closed: with FAll for each free variable, the first one outermost.
func closed(way said, tokens []mark) api.Formula {
	f := way.f
	var names []string
	for _, i := range way.free {
		if !slices.Contains(names, tokens[i].says) {
			names = append(names, tokens[i].says)
		}
	}
	for _, name := range slices.Backward(names) {
		f = forAll(name, f)
	}
	return f
}

// allTexts: all texts of these tokens of up to so many, and, behind each beginning of a text, each token that does not fit.
func allTexts(t *testing.T, alphabet []mark, count int) {
	t.Helper()
	tail := marksOf("N ) = &")
	var grow func(tokens []mark, c chart)
	grow = func(tokens []mark, c chart) {
		misfit := len(tokens)
		if c.whole() {
			misfit = -1
		}
		asModel(t, tokens, "", misfit)
		if len(tokens) == count {
			return
		}
		for _, token := range alphabet {
			longer := append(slices.Clone(tokens), token)
			if next, ok := c.with(token.class); ok {
				grow(longer, next)
			} else {
				asModel(t, longer, "", len(tokens))
				asModel(t, append(longer, tail[len(longer)%len(tail)]), "  ", len(tokens))
			}
		}
	}
	grow(nil, newChart())
}

// P1301: all short texts of all signs, a name, and a variable.
func TestReadAllShort(t *testing.T) {
	alphabet := append(marksOf("~ ! ? [ ] , : ( ) $true $false = != => <=> & |"), mark{"N", "p"}, mark{"V", "X"})
	allTexts(t, alphabet, 6)
}

// P1301: all texts of few signs, which are longer.
func TestReadAllOfFew(t *testing.T) {
	p, x, y := mark{"N", "p"}, mark{"V", "X"}, mark{"V", "Y"}
	allTexts(t, append(marksOf("( ) & | =>"), p), 8)
	allTexts(t, append(marksOf("( ) , = !="), p, x), 7)
	allTexts(t, append(marksOf("! [ ] , : ="), x, y), 9)
	allTexts(t, append(marksOf("~ <=> $true ="), p, x), 7)
	allTexts(t, append(marksOf("| ~ ="), p, x, y), 7)
}

// layout: a formula's tokens, by chance in one of the ways that the words leave.
type layout struct{ maker }

func (l layout) term(t api.Term) []mark {
	if isCapital(t.Fn) {
		return []mark{{"V", t.Fn}}
	}
	tokens := []mark{l.name(t.Fn)}
	for i, arg := range t.Args {
		tokens = append(tokens, marksOf([]string{"(", ","}[min(i, 1)])...)
		tokens = append(tokens, l.term(arg)...)
	}
	if len(t.Args) > 0 {
		tokens = append(tokens, marksOf(")")...)
	}
	return tokens
}

func isCapital(s string) bool { return 'A' <= s[0] && s[0] <= 'Z' }

// name: within quotes where it must be, or by chance.
func (l layout) name(name string) mark {
	if strings.Trim(name, "abcdefghijklmnopqrstuvwxyzABCDEFGHIJKLMNOPQRSTUVWXYZ_0123456789") == "" && name[0] >= 'a' && l.Intn(2) == 0 {
		return mark{"N", name}
	}
	return mark{"N", "'" + strings.NewReplacer(`\`, `\\`, "'", `\'`).Replace(name) + "'"}
}

// formula: as a formula's tokens. Those with two kids have parentheses around them just where a unary is asked for.
func (l layout) formula(f api.Formula) []mark {
	sign := marksOf(map[int]string{api.FAnd: "&", api.FOr: "|", api.FImp: "=>", api.FIff: "<=>"}[f.Kind])
	if len(sign) == 0 {
		return l.unary(f)
	}
	left := l.unary(f.Kids[0])
	if chain := f.Kind == api.FAnd || f.Kind == api.FOr; chain && f.Kids[0].Kind == f.Kind && l.Intn(2) == 0 {
		left = l.formula(f.Kids[0])
	}
	return slices.Concat(left, sign, l.unary(f.Kids[1]))
}

func (l layout) unary(f api.Formula) []mark {
	if l.Intn(8) == 0 {
		return slices.Concat(marksOf("("), l.formula(f), marksOf(")"))
	}
	switch f.Kind {
	case api.FAtom:
		if name, ok := strings.CutPrefix(f.L.Fn, "@"); ok {
			return l.term(fn(name, f.L.Args...))
		}
		return slices.Concat(l.term(f.L), marksOf("="), l.term(f.R))
	case api.FNot:
		if kid := f.Kids[0]; kid.Kind == api.FAtom && kid.R.Fn != "$true" && l.Intn(2) == 0 {
			return slices.Concat(l.term(kid.L), marksOf("!="), l.term(kid.R))
		}
		return slices.Concat(marksOf("~"), l.unary(f.Kids[0]))
	case api.FAll, api.FEx:
		tokens := append(marksOf([]string{"!", "?"}[f.Kind-api.FAll]+" ["), mark{"V", f.Name})
		kid := f.Kids[0]
		for ; kid.Kind == f.Kind && l.Intn(2) == 0; kid = kid.Kids[0] {
			tokens = append(append(tokens, marksOf(",")...), mark{"V", kid.Name})
		}
		return slices.Concat(tokens, marksOf("] :"), l.unary(kid))
	case api.FTrue:
		return marksOf("$true")
	case api.FFalse:
		return marksOf("$false")
	}
	return slices.Concat(marksOf("("), l.formula(f), marksOf(")"))
}

// P1301: texts of formulas by chance, in all the ways that the words leave, are read as that formula.
func TestReadChance(t *testing.T) {
	l := layout{newMaker(131)}
	for range 20000 {
		f := l.maker.formula(1 + l.Intn(7))
		s, _ := written(l.formula(f), []string{"", " ", "\t\r "}[l.Intn(3)])
		reads(t, Fof, s, f)
	}
}

// P1301: texts with a token too much, too few, or another one, are answered as the words ask.
func TestReadChanceWrong(t *testing.T) {
	l := layout{newMaker(132)}
	l.names, l.vars, l.open = []string{"a", "p"}, []string{"X", "Y", "Z"}, true
	signs := append(marksOf("~ ! ? [ ] , : ( ) $true $false = != => <=> & |"), mark{"N", "p"}, mark{"V", "X"}, mark{"V", "Y"})
	wrong := 0
	for range 6000 {
		f := l.maker.formula(1 + l.Intn(4))
		if l.Intn(4) == 0 { // a clause's text
			f = or(or(l.maker.formula(1), not(l.maker.formula(1))), l.maker.formula(1))
		}
		tokens := l.formula(f)
		for range l.Intn(3) {
			at := l.Intn(len(tokens) + 1)
			end := min(at+l.Intn(2), len(tokens))
			tokens = slices.Replace(slices.Clone(tokens), at, end, pick(l.maker, [][]mark{nil, {pick(l.maker, signs)}})...)
		}
		if len(tokens) > 60 {
			continue
		}
		for i := range tokens { // the model takes names as they stand
			tokens[i].says = strings.Trim(tokens[i].says, "'")
		}
		misfit := misfits(tokens)
		if misfit >= 0 {
			wrong++
		}
		asModel(t, tokens, "", misfit)
	}
	if wrong < 1000 || wrong > 5000 {
		t.Errorf("%d of the texts were wrong", wrong)
	}
}
