package lexer

import (
	"math/rand"
	"slices"
	"strings"
	"testing"
	"unsafe"

	"assize/api"
)

func name(at int, text string) Token   { return Token{Kind: 1, At: at, Text: text} }
func vary(at int, text string) Token   { return Token{Kind: 2, At: at, Text: text} }
func dollar(at int, text string) Token { return Token{Kind: 3, At: at, Text: text} }
func mark(at int, text string) Token   { return Token{Kind: 4, At: at, Text: text} }

// lexes: Lex answers these tokens and nothing else.
func lexes(t *testing.T, s string, want ...Token) {
	t.Helper()
	list, at, err := Lex(s)
	if !slices.Equal(list, want) || at != 0 || err != api.OK {
		t.Errorf("Lex(%.200q): %.500s, not %.500s", s, told(list, at, err), told(want, 0, api.OK))
	}
}

// fails: Lex answers this error at that place and no token.
func fails(t *testing.T, s string, wantAt int, want api.Errno) {
	t.Helper()
	list, at, err := Lex(s)
	if len(list) != 0 || at != wantAt || err != want {
		t.Errorf("Lex(%.200q): %.500s, not %.500s", s, told(list, at, err), told(nil, wantAt, want))
	}
}

// smalls, capitals, wordBytes: as the chapter's words have them.
const (
	smalls    = "abcdefghijklmnopqrstuvwxyz"
	capitals  = "ABCDEFGHIJKLMNOPQRSTUVWXYZ"
	wordBytes = smalls + capitals + "0123456789_"
)

func marks() []string {
	return []string{"<=>", "=>", "!=", "(", ")", "[", "]", ",", ":", "!", "?", "~", "&", "|", "="}
}

// bytesOf: all bytes, each as a text.
func bytesOf() []string {
	var list []string
	for c := range 256 {
		list = append(list, string([]byte{byte(c)}))
	}
	return list
}

func printable(c string) bool { return " " <= c && c <= "~" }

func TestKinds(t *testing.T) {
	if got := [...]int{Name, Var, Dollar, Mark}; got != [...]int{1, 2, 3, 4} {
		t.Errorf("kinds: %d", got)
	}
}

// P1201: ordinary texts, and the chapter's examples.
func TestLex(t *testing.T) {
	lexes(t, "")
	lexes(t, " \t\r ")
	lexes(t, "p", name(0, "p"))
	lexes(t, "p(X) != 'a b' % x", name(0, "p"), mark(1, "("), vary(2, "X"), mark(3, ")"), mark(5, "!="), name(8, "a b"))
	lexes(t, "'a b'", name(0, "a b"))
	lexes(t, "'it''s'", name(0, "it"), name(4, "s"))
	lexes(t, "! [X,Y_1] : (p(X)=>$true|~q)", mark(0, "!"), mark(2, "["), vary(3, "X"), mark(4, ","), vary(5, "Y_1"), mark(8, "]"),
		mark(10, ":"), mark(12, "("), name(13, "p"), mark(14, "("), vary(15, "X"), mark(16, ")"), mark(17, "=>"), dollar(19, "$true"),
		mark(24, "|"), mark(25, "~"), name(26, "q"), mark(27, ")"))
	lexes(t, "?[Z]:f(a,Z)=b<=>$false&c!=d", mark(0, "?"), mark(1, "["), vary(2, "Z"), mark(3, "]"), mark(4, ":"), name(5, "f"),
		mark(6, "("), name(7, "a"), mark(8, ","), vary(9, "Z"), mark(10, ")"), mark(11, "="), name(12, "b"), mark(13, "<=>"),
		dollar(16, "$false"), mark(22, "&"), name(23, "c"), mark(24, "!="), name(26, "d"))
	fails(t, "p(X) != 'A'", 8, api.ErrToken)
}

// P1201: a token is as long as can be.
func TestLexLongest(t *testing.T) {
	lexes(t, "aBc_09X", name(0, "aBc_09X"))
	lexes(t, "XaB_0", vary(0, "XaB_0"))
	lexes(t, "a B", name(0, "a"), vary(2, "B"))
	lexes(t, "a'b'C", name(0, "a"), name(1, "b"), vary(4, "C"))
	lexes(t, "<=>=>=!=!", mark(0, "<=>"), mark(3, "=>"), mark(5, "="), mark(6, "!="), mark(8, "!"))
	lexes(t, "==>", mark(0, "="), mark(1, "=>"))
	lexes(t, "!==", mark(0, "!="), mark(2, "="))
	lexes(t, "! =", mark(0, "!"), mark(2, "="))
	lexes(t, "= =", mark(0, "="), mark(2, "="))
	fails(t, "!=>", 2, api.ErrToken)
	fails(t, "= >", 2, api.ErrToken)
	fails(t, "<=", 0, api.ErrToken)
	fails(t, "<= >", 0, api.ErrToken)
	fails(t, "<", 0, api.ErrToken)
}

// P1201: dollar words are two, and no word's byte stands behind one.
func TestLexDollar(t *testing.T) {
	lexes(t, "$true", dollar(0, "$true"))
	lexes(t, " $false ", dollar(1, "$false"))
	lexes(t, "$true$false'x'", dollar(0, "$true"), dollar(5, "$false"), name(11, "x"))
	for _, word := range []string{"$true", "$false"} {
		for _, c := range bytesOf() {
			if strings.Contains(wordBytes, c) {
				fails(t, " "+word+c, 1, api.ErrToken)
			} else if _, at, err := Lex(" " + word + c); err != api.OK && at != 1+len(word) {
				t.Errorf("Lex(%q): error %d at %d", word+c, int(err), at)
			}
		}
	}
	for _, s := range []string{"$", "$x", "$tru", "$True", "$TRUE", "$fals", "$ true", "$$true", "$'true'", "$0", "$_", "$falsetrue"} {
		fails(t, "p & "+s, 4, api.ErrToken)
	}
	fails(t, "$true "+strings.Repeat("a", 64), 6, api.ErrBig)
	fails(t, "$"+strings.Repeat("a", 64), 0, api.ErrToken)
}

// P1201: what each byte begins.
func TestLexEachByte(t *testing.T) {
	for _, c := range bytesOf() {
		switch {
		case strings.Contains(" \t\r", c):
			lexes(t, c)
			lexes(t, "a"+c+"B", name(0, "a"), vary(2, "B"))
		case c == "%":
			lexes(t, c)
			lexes(t, "a"+c+"B", name(0, "a"))
		case strings.Contains(smalls, c):
			lexes(t, "("+c, mark(0, "("), name(1, c))
		case strings.Contains(capitals, c):
			lexes(t, "("+c, mark(0, "("), vary(1, c))
		case slices.Contains(marks(), c):
			lexes(t, "a"+c, name(0, "a"), mark(1, c))
		default:
			fails(t, c, 0, api.ErrToken)
			fails(t, "p ("+c+")", 3, api.ErrToken)
		}
	}
}

// P1201: which bytes go on with a name or a variable, and which end it.
func TestLexEachByteBehind(t *testing.T) {
	for _, c := range bytesOf() {
		for _, first := range []string{"a", "A"} {
			list, at, err := Lex(first + c)
			whole := err == api.OK && len(list) == 1 && list[0].Text == first+c
			if whole != strings.Contains(wordBytes, c) {
				t.Errorf("Lex(%q): %s", first+c, told(list, at, err))
			}
			if err != api.OK && (err != api.ErrToken || at != 1) {
				t.Errorf("Lex(%q): error %d at %d", first+c, int(err), at)
			}
		}
	}
}

// P1201: blanks are three bytes, and what begins with % up to the end, whatever it is.
func TestLexBlanks(t *testing.T) {
	lexes(t, "\t a \r\tB  ", name(2, "a"), vary(6, "B"))
	for _, end := range []string{"", "% '", " %%", "%\n a", "% \xff\x00 'A' $x", "%" + strings.Repeat("a", 100)} {
		lexes(t, end)
		lexes(t, "a"+end, name(0, "a"))
		lexes(t, "'a'"+end, name(0, "a"))
		lexes(t, "=>"+end, mark(0, "=>"))
	}
	lexes(t, "$true%x", dollar(0, "$true"))
	lexes(t, "'%' 'a % b'", name(0, "%"), name(4, "a % b"))
	for _, c := range []string{"\n", "\v", "\f", "\x00", "\u00a0", "\u2028", "\x7f"} {
		fails(t, "a"+c+"b", 1, api.ErrToken)
	}
}

// P1201: quoted names, whose quotes and signs ahead are none of the name.
func TestLexQuoted(t *testing.T) {
	lexes(t, "'abc'", name(0, "abc"))
	lexes(t, "'a''b'", name(0, "a"), name(3, "b"))
	lexes(t, `'\''`, name(0, "'"))
	lexes(t, `'\\'`, name(0, `\`))
	lexes(t, `'\\\''`, name(0, `\'`))
	lexes(t, `'\\''\''`, name(0, `\`), name(4, "'"))
	lexes(t, `p('it\'s',X)`, name(0, "p"), mark(1, "("), name(2, "it's"), mark(9, ","), vary(10, "X"), mark(11, ")"))
	lexes(t, "'aA@$'", name(0, "aA@$"))
	lexes(t, "' ' '0' '_' '('", name(0, " "), name(4, "0"), name(8, "_"), name(12, "("))
	for _, c := range bytesOf() {
		switch {
		case strings.Contains(capitals+"@$", c):
			fails(t, "  '"+c+"'", 2, api.ErrToken)
			lexes(t, "'a"+c+"'", name(0, "a"+c))
		case strings.Contains(`'\`, c):
			lexes(t, `'\`+c+`'`, name(0, c))
			lexes(t, `'a\`+c+`b'`, name(0, "a"+c+"b"))
			continue
		case printable(c):
			lexes(t, "'"+c+"'", name(0, c))
			lexes(t, "'a"+c+"b'", name(0, "a"+c+"b"))
		default:
			fails(t, "  '"+c+"'", 2, api.ErrToken)
			fails(t, "  'a"+c+"b'", 2, api.ErrToken)
		}
		fails(t, "X '\\"+c+"'", 2, api.ErrToken)
		fails(t, "X 'a\\"+c+"b'", 2, api.ErrToken)
	}
}

// P1201: quoted names that are none: the place is that of the quote that begins them.
func TestLexQuotedWrong(t *testing.T) {
	for _, s := range []string{"'", "'a", "''", "'''", "'a b % ", `'\`, `'\'`, `'a\'`, `'\\\'`, `'a\ '`, `'\n'`, "'é'", "'a\nb'", "'$true'", "'@p'", "'Xy'"} {
		fails(t, s, 0, api.ErrToken)
		fails(t, "p & "+s, 4, api.ErrToken)
	}
	fails(t, "'a''", 3, api.ErrToken)
	fails(t, "'a' ''", 4, api.ErrToken)
	fails(t, "a'", 1, api.ErrToken)
}

// P1201: names and variables have at most MaxName - 1 bytes, quotes and signs ahead not counted.
func TestLexBig(t *testing.T) {
	for size := range 200 {
		rest := strings.Repeat("b", size)
		quotes, signs := strings.Repeat("'", size+1), strings.Repeat(`\'`, size+1)
		if size+1 <= api.MaxName-1 {
			lexes(t, " a"+rest+" ", name(1, "a"+rest))
			lexes(t, " A"+rest+" ", vary(1, "A"+rest))
			lexes(t, " 'a"+rest+"' ", name(1, "a"+rest))
			lexes(t, " '"+signs+"' ", name(1, quotes))
		} else {
			fails(t, " a"+rest+" ", 1, api.ErrBig)
			fails(t, " A"+rest+" ", 1, api.ErrBig)
			fails(t, " 'a"+rest+"' ", 1, api.ErrBig)
			fails(t, " '"+signs+"' ", 1, api.ErrBig)
		}
	}
}

// P1201: the first error from the left; of one token, that it is none comes ahead of its length.
func TestLexFirstError(t *testing.T) {
	long := strings.Repeat("a", 64)
	fails(t, long+" @", 0, api.ErrBig)
	fails(t, "@ "+long, 0, api.ErrToken)
	fails(t, "a @ $x 'B'", 2, api.ErrToken)
	fails(t, "a 'B' @", 2, api.ErrToken)
	fails(t, "X"+long+"'", 0, api.ErrBig)
	fails(t, long+"\n", 0, api.ErrBig)
	fails(t, "  '"+long, 2, api.ErrToken)
	fails(t, "  '"+long+"\n'", 2, api.ErrToken)
	fails(t, "  '"+long+`\a'`, 2, api.ErrToken)
	fails(t, "  'A"+long+"'", 2, api.ErrToken)
	fails(t, "  '$"+long+"'", 2, api.ErrToken)
	fails(t, "0"+long, 0, api.ErrToken)
	fails(t, "_"+long, 0, api.ErrToken)
	fails(t, "% "+long+" @", 0, api.OK)
}

// P1201: tokens shown again with blanks between are the same tokens.
func TestLexAgain(t *testing.T) {
	r := rand.New(rand.NewSource(14))
	pieces := slices.Concat(marks(), []string{"p", "'it\\'s'", "X", "$true", "$false", "' '", "aB", "Xy"})
	wholes := 0
	for range 3000 {
		var b strings.Builder
		for range r.Intn(30) {
			b.WriteString(pieces[r.Intn(len(pieces))])
		}
		first, _, err := Lex(b.String())
		if err != api.OK { // pieces may have met that are no tokens together
			continue
		}
		wholes += len(first)
		var spread strings.Builder
		var want []Token
		for _, token := range first {
			want = append(want, Token{Kind: token.Kind, At: spread.Len(), Text: token.Text})
			if token.Kind == Name {
				token.Text = Show(token.Text)
			}
			spread.WriteString(token.Text + " \t")
		}
		lexes(t, spread.String(), want...)
	}
	if wholes < 10000 {
		t.Errorf("only %d tokens", wholes)
	}
}

// Rules 4 and 5: what is answered is the caller's own, and the same text is answered alike.
func TestLexOwn(t *testing.T) {
	s := strings.Clone("p(Xy) & 'q r' % and a tail that no token needs")
	first, _, _ := Lex(s)
	want := slices.Clone(first)
	for i := range first[:cap(first)] {
		first[:cap(first)][i] = Token{Kind: 9, At: 9, Text: "9"}
	}
	lexes(t, s, want...)
	begin := uintptr(unsafe.Pointer(unsafe.StringData(s)))
	for _, token := range want {
		place := uintptr(unsafe.Pointer(unsafe.StringData(token.Text)))
		if begin <= place && place < begin+uintptr(len(s)) {
			t.Errorf("the token %q holds the whole text", token.Text)
		}
	}
}

// Rule 1: whoever ranges over the tokens may stop at any of them, and nothing comes behind an error.
func TestTokensStop(t *testing.T) {
	for stop := range 7 {
		count := 0
		for range tokens("p ( X ' )") {
			if count == stop {
				break
			}
			count++
		}
		if count != min(stop, 4) {
			t.Errorf("%d tokens ahead of the stop, not %d", count, min(stop, 4))
		}
	}
}

// Rule 1: great texts end soon.
func TestLexGreat(t *testing.T) {
	const size = 1 << 21
	if list, _, err := Lex(strings.Repeat("(a ", size/3)); err != api.OK || len(list) != size/3*2 {
		t.Errorf("many tokens: %d, error %d", len(list), int(err))
	}
	lexes(t, strings.Repeat(" ", size))
	lexes(t, strings.Repeat("%", size))
	lexes(t, "'a'"+strings.Repeat(" ", size)+"b", name(0, "a"), name(size+3, "b"))
	fails(t, strings.Repeat("a", size), 0, api.ErrBig)
	fails(t, strings.Repeat("A", size), 0, api.ErrBig)
	fails(t, "$true"+strings.Repeat("e", size), 0, api.ErrToken)
	fails(t, "'"+strings.Repeat("a", size), 0, api.ErrToken)
	fails(t, "'"+strings.Repeat("a", size)+"'", 0, api.ErrBig)
	fails(t, "'"+strings.Repeat(`\\`, size)+"'", 0, api.ErrBig)
	fails(t, strings.Repeat("'a'", size/3)+"'", size/3*3, api.ErrToken)
	fails(t, strings.Repeat("$true ", size/6)+"$", size/6*6, api.ErrToken)
}
