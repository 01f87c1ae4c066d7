package lexer

import (
	"math/rand"
	"strings"
	"testing"

	"assize/api"
)

// kindsOf: whether it is Plain, IsName, IsVar, as three signs.
func kindsOf(s string) string {
	signs := []byte("---")
	for i, so := range []bool{Plain(s), IsName(s), IsVar(s)} {
		if so {
			signs[i] = "pnv"[i]
		}
	}
	return string(signs)
}

// P1202: ordinary names, and what is none.
func TestNames(t *testing.T) {
	for _, c := range [][2]string{
		{"", "---"}, {"a", "pn-"}, {"aB", "pn-"}, {"a_9Z", "pn-"}, {"z0", "pn-"}, {"X", "--v"}, {"X_1", "--v"}, {"Xy", "--v"}, {"XYZ", "--v"},
		{"a b", "-n-"}, {"it's", "-n-"}, {`\`, "-n-"}, {"'", "-n-"}, {"''", "-n-"}, {" ", "-n-"}, {" a", "-n-"}, {"a ", "-n-"}, {"0", "-n-"},
		{"_", "-n-"}, {"_a", "-n-"}, {"9A", "-n-"}, {"a@", "-n-"}, {"a$", "-n-"}, {"=>", "-n-"}, {"%", "-n-"}, {"a'b", "-n-"}, {"~", "-n-"},
		{"@a", "---"}, {"@", "---"}, {"$", "---"}, {"$true", "---"}, {"X y", "---"}, {"X'", "---"}, {"X@", "---"}, {"@X", "---"},
		{"é", "---"}, {"aé", "---"}, {"Xé", "---"}, {"a\n", "---"}, {"\ta", "---"}, {"a\x7f", "---"}, {"a\x00", "---"}, {"X\n", "---"}, {"\xff", "---"},
	} {
		if got := kindsOf(c[0]); got != c[1] {
			t.Errorf("%q: %s, not %s", c[0], got, c[1])
		}
	}
}

// P1202: each byte as the first, in the midst, and as the last one.
func TestNamesEachByte(t *testing.T) {
	for _, c := range bytesOf() {
		small, capital := strings.Contains(smalls, c), strings.Contains(capitals, c)
		word, may := strings.Contains(wordBytes, c), printable(c)
		first := may && !capital && c != "@" && c != "$"
		for s, want := range map[string][3]bool{
			c: {small, first, capital}, c + "a": {small, first, capital}, c + "Z_": {small, first, capital},
			"a" + c: {word, may, false}, "ab" + c + "c": {word, may, false}, "0" + c: {false, may, false},
			"A" + c: {false, false, word}, "Xy" + c + "Z": {false, false, word}, "@" + c: {}, "$" + c: {},
		} {
			if got := [3]bool{Plain(s), IsName(s), IsVar(s)}; got != want {
				t.Errorf("Plain, IsName, IsVar of %q: %v, not %v", s, got, want)
			}
		}
	}
}

// P1202: a name and a variable have at most MaxName - 1 bytes; Plain asks for no length.
func TestNamesLength(t *testing.T) {
	for size := 1; size < 200; size++ {
		rest := strings.Repeat("b", size-1)
		fits := size <= api.MaxName-1
		if got := IsName("a" + rest); got != fits {
			t.Errorf("IsName of %d bytes: %v", size, got)
		}
		if got := IsName(" " + rest); got != fits {
			t.Errorf("IsName of a blank and %d bytes: %v", size-1, got)
		}
		if got := IsName(strings.Repeat("'", size)); got != fits {
			t.Errorf("IsName of %d quotes: %v", size, got)
		}
		if got := IsVar("A" + rest); got != fits {
			t.Errorf("IsVar of %d bytes: %v", size, got)
		}
		if !Plain("a" + rest) {
			t.Errorf("Plain of %d bytes: false", size)
		}
	}
	if long := "a" + strings.Repeat("B", 1<<20); !Plain(long) || IsName(long) || IsVar(long) || Plain(long+" ") {
		t.Error("a very long name")
	}
}

// P1202: what is Plain stands as it is, all else within quotes, whether it is a name or not.
func TestShow(t *testing.T) {
	long := "a" + strings.Repeat("B", 1000)
	for _, c := range [][2]string{
		{"a", "a"}, {"ab", "ab"}, {"aB_9", "aB_9"}, {long, long},
		{"it's", `'it\'s'`}, {"a b", "'a b'"}, {`\`, `'\\'`}, {"'", `'\''`}, {`\'`, `'\\\''`}, {`a\\b`, `'a\\\\b'`}, {"0", "'0'"}, {"_a", "'_a'"},
		{"a$", "'a$'"}, {"%", "'%'"}, {" ", "' '"}, {"a'", `'a\''`},
		{"", "''"}, {"X", "'X'"}, {"$true", "'$true'"}, {"@p", "'@p'"}, {"é", "'é'"}, {"a\n", "'a\n'"}, {"\xff", "'\xff'"}, {long + "-", "'" + long + "-'"},
	} {
		if got := Show(c[0]); got != c[1] {
			t.Errorf("Show(%.80q): %.80q, not %.80q", c[0], got, c[1])
		}
	}
}

// back: Lex of Show of a name is that name alone; of what is no name it never is.
func back(t *testing.T, s string) {
	t.Helper()
	list, at, err := Lex(Show(s))
	got := err == api.OK && len(list) == 1 && at == 0 && list[0] == Token{Kind: Name, Text: s}
	if got != IsName(s) {
		t.Fatalf("IsName(%q) is %v, and Lex of %q: %s", s, IsName(s), Show(s), told(list, at, err))
	}
	if err == api.OK && Show(list[0].Text) != Show(s) {
		t.Fatalf("Show of %q is not Show of %q", list[0].Text, s)
	}
}

// P1203: all names of up to two bytes, and all of a few that count.
func TestBackAll(t *testing.T) {
	for s := range texts(2, bytesOf()...) {
		back(t, s)
	}
	for s := range texts(6, "'", `\`, "a", "A", " ", "$", "\n") {
		back(t, s)
	}
}

// P1203: names of all lengths, by chance.
func TestBackChance(t *testing.T) {
	r := rand.New(rand.NewSource(15))
	names := 0
	for range 60000 {
		b := make([]byte, r.Intn(70))
		for i := range b {
			switch r.Intn(4) {
			case 0:
				b[i] = `'\'\ a%`[r.Intn(7)]
			case 1:
				b[i] = wordBytes[r.Intn(len(wordBytes))]
			default:
				b[i] = byte(0x20 + r.Intn(0x5f))
			}
		}
		if IsName(string(b)) {
			names++
		}
		back(t, string(b))
	}
	if names < 20000 {
		t.Errorf("only %d names", names)
	}
	for size := range 130 {
		for _, c := range bytesOf() {
			back(t, strings.Repeat(c, size))
		}
	}
}
