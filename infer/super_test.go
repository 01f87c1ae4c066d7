package infer

import (
	"testing"

	"assize/kbo"
	"assize/multi"
)

// superCase: what follows, as sayStep says it.
type superCase struct {
	o          multi.Order
	sel        bool
	from, into string
	want       string
}

func wantSuper(t *testing.T, cases []superCase) {
	t.Helper()
	for _, c := range cases {
		l, lost := Super(c.o, c.sel, read(t, c.from), read(t, c.into))
		want(t, "Super from "+c.from+" into "+c.into, l, lost, c.want, false)
	}
}

// P1601: which sides, which places, and what comes.
func TestSuperPlaces(t *testing.T) {
	up, down := kb("a b"), kb("b a")
	wantSuper(t, []superCase{
		{down, false, "a=b", "@p(a)", "0L 0L [0] {} {} @p(b)"},
		{down, false, "b=a", "@p(a)", "0R 0L [0] {} {} @p(b)"},
		{up, false, "a=b", "@p(b)", "0R 0L [0] {} {} @p(a)"},
		{up, false, "a=b", "@p(a)", ""},
		{down, false, "a=b", "@p(b)", ""},
		{down, false, "a=b", "@p(X0)", ""},
		{down, false, "a=b", "X0=X1", ""},
		{down, false, "a=b", "0", ""},
		{down, false, "0", "@p(a)", ""},
		{down, false, "a=a", "@p(a)", ""},
		{down, false, "a!=b", "@p(a)", ""},
		{down, false, "a=b", "~@p(a)", "0L 0L [0] {} {} ~@p(b)"},
		{down, false, "a=b", "$true=@p(a)", "0L 0R [0] {} {} $true=@p(b)"},
		{down, false, "a=b", "a=b", "0L 0L [] {} {} b=b"},
		{down, false, "a=b", "f(b)=f(a)", "0L 0R [0] {} {} f(b)=f(b)"},
		{down, false, "a=b", "a!=f(a)", "0L 0R [0] {} {} a!=f(b)"},
		{down, false, "a=b", "g(a,f(a))=X0", "0L 0L [0] {} {} g(b,f(a))=X0; 0L 0L [1 0] {} {} g(a,f(b))=X0"},
		{down, false, "f(a)=b", "@q(f(f(a)),f(a))", "0L 0L [0 0] {} {} @q(f(b),f(a)); 0L 0L [1] {} {} @q(f(f(a)),b)"},
		{down, false, "f(f(X0))=b", "@p(f(f(f(a))))", "0L 0L [0] {0:f(a)} {} @p(b); 0L 0L [0 0] {0:a} {} @p(f(b))"},
	})
}

// P1601: what stands for variables, of both clauses as they are.
func TestSuperBinds(t *testing.T) {
	o := kb("a b c")
	wantSuper(t, []superCase{
		{o, false, "f(X0)=X0", "@p(f(X0))", "0L 0L [0] {} {} @p(X0)"},
		{o, false, "f(X0)=X0", "@p(f(X1))", "0L 0L [0] {} {1:X0} @p(X0)"},
		{o, false, "f(X3)=X3", "@p(f(X1))", "0L 0L [0] {} {1:X3} @p(X0)"},
		{o, false, "f(X0)=X0", "@q(f(X0),X1)", "0L 0L [0] {} {1:X2} @q(X0,X1)"},
		{o, false, "f(X0)=X0", "@q(f(X1),X0)", "0L 0L [0] {} {0:X1,1:X0} @q(X0,X1)"},
		{o, false, "g(X0,a)=b", "@p(g(b,X0))", "0L 0L [0] {0:b} {0:a} @p(b)"},
		{o, false, "g(X2,a)=b", "@q(g(f(X1),X7),X5)", "0L 0L [0] {2:f(X4)} {1:X4,5:X8,7:a} @q(b,X0)"},
		{o, false, "f(a)=b", "@q(f(X3),X1)", "0L 0L [0] {} {3:a} @q(b,X0)"},
		{o, false, "f(a)=b", "@q(f(a),X1)", "0L 0L [0] {} {} @q(b,X0)"},
		{o, false, "g(X0,X1)=X1 | @q(X1,X4)", "@q(g(a,X0),X0)", "0L 0L [0] {0:a} {0:X1} @q(X0,X0) | @q(X0,X1); 1L 0L [] {1:g(a,X4)} {0:X4} $true=$true | g(X0,g(a,X1))=g(a,X1)"},
		{lp("@q a f g"), false, "g(X0,X1)=X1 | @q(X1,X1)", "@q(g(a,X0),X0)", "0L 0L [0] {0:a} {0:X1} @q(X0,X0) | @q(X0,X0)"},
		{lp("@q a f g"), false, "g(X3,X1)=X1 | @q(X1,X3)", "@q(g(X1,X0),X2)", "0L 0L [0] {} {0:X1,1:X3,2:X6} @q(X0,X1) | @q(X0,X2)"},
		{o, false, "g(X0,f(X1))=X1", "@p(g(f(X1),X0))", "0L 0L [0] {0:f(X3)} {0:f(X1),1:X3} @p(X0)"},
		{o, false, "g(X0,X0)=a", "@p(g(f(X0),f(f(X1))))", "0L 0L [0] {0:f(f(X2))} {0:f(X2),1:X2} @p(a)"},
		{o, false, "g(X0,X0)=a", "@p(g(X0,f(X0)))", ""},
		{o, false, "f(X0)=X0", "f(f(X0))=X0", "0L 0L [] {0:f(X1)} {0:X1} f(X0)=X0; 0L 0L [0] {} {} f(X0)=X0"},
	})
}

// P1601: the steps come by i, its side, k, its side, the place; the instance of into stands ahead of the rest of from's.
func TestSuperOrder(t *testing.T) {
	o := multi.Order{G: kbo.Sign{}}
	wantSuper(t, []superCase{
		{o, false, "g(X0,X1)=g(X1,X0)", "@q(g(a,b),g(b,a))", "0L 0L [1] {0:b,1:a} {} @q(g(a,b),g(a,b)); 0R 0L [1] {0:a,1:b} {} @q(g(a,b),g(a,b))"},
		{o, false, "f(X0)=f(X1) | h(X2)=h(X3)", "X0!=f(a) | h(c)!=X1", "0L 0R [] {0:a} {0:X4,1:X5} X0!=f(X1) | h(c)!=X2 | h(X3)=h(X4); 0R 0R [] {1:a} {0:X4,1:X5} X0!=f(X1) | h(c)!=X2 | h(X3)=h(X4); " +
			"1L 1L [] {2:c} {0:X4,1:X5} X0!=f(a) | h(X1)!=X2 | f(X3)=f(X4); 1R 1L [] {3:c} {0:X4,1:X5} X0!=f(a) | h(X1)!=X2 | f(X3)=f(X4)"},
		{o, false, "g(X0,X1)=X2", "g(a,b)!=g(c,X0)", "0L 0R [] {0:c} {0:X1} g(a,b)!=X0; 0R 0R [] {2:g(c,X3)} {0:X3} g(a,b)!=g(X0,X1)"},
		{o, false, "g(X0,X1)=X2", "g(a,X1)!=g(X0,b)", "0L 0L [] {0:a} {0:X3} X0!=g(X1,b); 0L 0R [] {1:b} {1:X4} g(a,X0)!=X1; 0R 0L [] {2:g(a,X4)} {0:X3,1:X4} g(X0,X1)!=g(X2,b); 0R 0R [] {2:g(X3,b)} {0:X3,1:X4} g(a,X0)!=g(X1,X2)"},
		{kb("b a"), false, "a=b", "@r(a,f(a),X0) | @r(f(a),X1) | f(a)=X2", "0L 0L [0] {} {} @r(b,f(a),X0) | @r(f(a),X1) | f(a)=X2; 0L 0L [1 0] {} {} @r(a,f(b),X0) | @r(f(a),X1) | f(a)=X2; " +
			"0L 1L [0 0] {} {} @r(a,f(a),X0) | @r(f(b),X1) | f(a)=X2; 0L 2L [0] {} {} @r(a,f(a),X0) | @r(f(a),X1) | f(b)=X2"},
	})
}

// P1601: i's side, and k's, by the order of what they are in the instances.
func TestSuperSides(t *testing.T) {
	down := kb("b a")
	wantSuper(t, []superCase{
		{down, false, "g(X0,X1)=g(X1,X0)", "@p(g(a,b))", "0L 0L [0] {0:a,1:b} {} @p(g(b,a)); 0R 0L [0] {0:b,1:a} {} @p(g(b,a))"},
		{down, false, "g(X0,X1)=g(X1,X0)", "@p(g(b,a))", ""},
		{down, false, "g(X0,X1)=g(X1,X0)", "@p(g(a,a))", ""},
		{down, false, "X0=b", "@p(a)", "0L 0L [0] {0:a} {} @p(b)"},
		{down, false, "X0=a", "@p(b)", ""},
		{down, false, "X0=a", "@p(a)", "0R 0L [0] {} {} @p(X0)"},
		{down, false, "a=b", "g(a,X0)=g(X0,a)", "0L 0L [0] {} {} g(b,X0)=g(X0,a); 0L 0R [1] {} {} g(a,X0)=g(X0,b)"},
		{down, false, "a=b", "g(a,f(a))=g(f(a),a)", "0L 0R [0 0] {} {} g(a,f(a))=g(f(b),a); 0L 0R [1] {} {} g(a,f(a))=g(f(a),b)"},
		{down, false, "f(X0)=X0", "g(f(a),X0)=g(X0,f(a))", "0L 0L [0] {0:a} {0:X1} g(a,X0)=g(X0,f(a)); 0L 0R [1] {0:a} {0:X1} g(f(a),X0)=g(X0,a)"},
		{down, false, "g(X0,a)=b", "g(X0,X1)=g(X1,X0)", "0L 0L [] {} {1:a} b=g(a,X0); 0L 0R [] {} {0:a,1:X0} g(a,X0)=b"},
		{down, false, "a=b", "f(a)=f(a)", ""},
		{down, false, "a=b", "f(a)!=f(a)", ""},
		{kb("k h"), false, "h(X0)=k(X0,X0)", "@q(h(a),k(a,a))", "0R 0L [1] {0:a} {} @q(h(a),h(a))"},
		{lp("k h"), false, "h(X0)=k(X0,X0)", "@q(h(a),k(a,a))", "0L 0L [0] {0:a} {} @q(k(a,a),k(a,a))"},
	})
	heavy := multi.Order{G: kbo.Sign{Names: []string{"b", "a"}, Weights: []int{2}}}
	wantSuper(t, []superCase{{heavy, false, "a=b", "@q(a,b)", "0R 0L [1] {} {} @q(a,a)"}})
}

// P1601: i is Strict in from's instance; k is Maximal in into's, or Strict, if it is not Neg.
func TestSuperLiterals(t *testing.T) {
	o := kb("b a c d @p")
	wantSuper(t, []superCase{
		{o, false, "a=b | c=b", "@p(a)", ""},
		{o, false, "a=b | c=b", "@p(c)", "1L 0L [0] {} {} @p(b) | a=b"},
		{o, false, "c=b | a!=b", "@p(c)", "0L 0L [0] {} {} @p(b) | a!=b"},
		{o, false, "c=b | c!=b", "@p(c)", ""},
		{o, false, "a=b | a=b", "@p(a)", ""},
		{o, false, "a=b | b=a", "@p(a)", ""},
		{o, false, "f(X0)=b | f(X1)=b", "@p(f(a))", "0L 0L [0] {0:a} {} @p(b) | f(X0)=b; 1L 0L [0] {1:a} {} @p(b) | f(X0)=b"},
		{o, false, "f(X0)=X0 | f(a)=a", "@p(f(a))", "1L 0L [0] {} {} @p(a) | f(X0)=X0"},
		{o, false, "f(X0)=b | f(X1)=X0", "@p(f(a))", "0L 0L [0] {0:a} {} @p(b) | f(X0)=a; 1L 0L [0] {1:a} {} @p(X0) | f(X0)=b; 1R 0L [0] {0:f(a)} {} @p(f(X0)) | f(f(a))=b"},
		{o, false, "a=b", "@p(a) | @p(c)", ""},
		{o, false, "a=b", "@p(a) | c=b", "0L 0L [0] {} {} @p(b) | c=b"},
		{o, false, "a=b", "@p(a) | @p(a)", ""},
		{o, false, "a=b", "~@p(a) | ~@p(a)", "0L 0L [0] {} {} ~@p(b) | ~@p(a); 0L 1L [0] {} {} ~@p(a) | ~@p(b)"},
		{o, false, "a=b", "~@p(a) | $true!=@p(a)", "0L 0L [0] {} {} ~@p(b) | $true!=@p(a); 0L 1R [0] {} {} ~@p(a) | $true!=@p(b)"},
		{o, false, "a=b", "~@p(a) | @p(a)", "0L 0L [0] {} {} ~@p(b) | @p(a)"},
		{o, false, "a=b", "~@p(a) | ~@p(c)", ""},
		{o, false, "a=b", "@p(f(X0)) | @q(a,X1) | ~@p(a)", "0L 1L [0] {} {} @p(f(X0)) | @q(b,X1) | ~@p(a)"},
		{o, false, "f(X0)=X0", "@p(f(X0)) | @p(f(a))", "0L 0L [0] {} {} @p(X0) | @p(f(a)); 0L 1L [0] {0:a} {0:X1} @p(f(X0)) | @p(a)"},
		{o, false, "f(X0)=X0", "@p(f(X0)) | @p(X1)", "0L 0L [0] {} {1:X2} @p(X0) | @p(X1)"},
	})
}

// P1601: with sel nothing comes from a clause with a literal that is Neg, and only its first one is rewritten, whatever the others are.
func TestSuperSelected(t *testing.T) {
	o := kb("b a c d @p")
	wantSuper(t, []superCase{
		{o, true, "c=b | a!=b", "@p(c)", ""},
		{o, true, "c=b | b!=b", "~@p(c)", ""},
		{o, true, "a=b", "@p(a)", "0L 0L [0] {} {} @p(b)"},
		{o, true, "a=b", "@p(c) | a!=b | ~@p(a)", "0L 1L [] {} {} @p(c) | b!=b | ~@p(a)"},
		{o, true, "a=b", "~@p(a) | ~@p(a)", "0L 0L [0] {} {} ~@p(b) | ~@p(a)"},
		{o, true, "a=b", "@p(a) | @p(c)", ""},
		{o, true, "a=b", "@p(a) | ~@p(d)", ""},
		{o, false, "a=b", "@p(a) | ~@p(d)", ""},
		{o, true, "a=b", "@q(a,d) | ~@p(a) | @q(a,a)", "0L 1L [0] {} {} @q(a,d) | ~@p(b) | @q(a,a)"},
		{o, true, "a=b", "a!=f(a) | @p(a)", "0L 0R [0] {} {} a!=f(b) | @p(a)"},
		{o, true, "a=b | c=b", "~@p(a)", ""},
		{o, true, "a=b | a=b", "~@p(a)", ""},
	})
}

// P1601: predicates: no side that is $true rewrites, and no variable is a truth.
func TestSuperTruths(t *testing.T) {
	o := kb("b a @p @q")
	wantSuper(t, []superCase{
		{o, false, "@p(a)", "~@p(a)", "0L 0L [] {} {} $true!=$true"},
		{o, false, "$true=@p(a)", "~@p(X0)", "0R 0L [] {} {0:a} $true!=$true"},
		{o, false, "@p(X0)", "@q(X0,a) | ~@p(a)", ""},
		{o, true, "@p(X0)", "@q(X0,a) | ~@p(a)", "0L 1L [] {0:a} {0:X1} @q(X0,a) | $true!=$true"},
		{o, false, "@p(a)", "@p(a)", "0L 0L [] {} {} $true=$true"},
		{o, false, "@p(X0)=@q(X0,X0)", "@q(a,a) | ~@p(a)", "0R 0L [] {0:a} {} @p(a) | ~@p(a)"},
		{o, false, "@q(X0,X1)=@p(X0)", "~@q(X0,f(X0))", "0L 0L [] {1:f(X0)} {} ~@p(X0)"},
		{o, false, "X0=b", "@p(a)", "0L 0L [0] {0:a} {} @p(b)"},
		{o, false, "X0=X1", "@p(b)", "0L 0L [0] {0:b} {} @p(X0); 0R 0L [0] {1:b} {} @p(X0)"},
		{o, false, "X0=b", "$true=$true", ""},
		{o, false, "X0=b", "$true!=$true", ""},
		{o, false, "X0=b", "@p=@r", ""},
		{o, false, "$true=$true", "$true!=$true", ""},
		{o, false, "@p(a)=@p(a)", "~@p(a)", ""},
	})
}
