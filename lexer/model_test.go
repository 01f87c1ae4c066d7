package lexer

import (
	"fmt"
	"iter"
	"math/rand"
	"regexp"
	"strings"
	"testing"

	"assize/api"
)

// shape: a kind of tokens by an expression; some may have no word's byte behind them.
type shape struct {
	kind  int
	re    *regexp.Regexp
	alone bool
}

// model: the chapter's words, by expressions.
type model struct {
	blanks, wordByte, first *regexp.Regexp
	shapes                  []shape
}

func newModel() model {
	at := func(expression string) *regexp.Regexp {
		re := regexp.MustCompile(`\A(?s:` + expression + `)`)
		re.Longest()
		return re
	}
	return model{
		blanks:   at(`[\x20\x09\x0d]*(%.*)?`),
		wordByte: at(`[a-zA-Z0-9_]`),
		first:    at(`[A-Z@$]`),
		shapes: []shape{
			{kind: 1, re: at(`[a-z][a-zA-Z0-9_]*`)},
			{kind: 1, re: at(`'([\x20-\x26\x28-\x5b\x5d-\x7e]|\\'|\\\\)*'`)},
			{kind: 2, re: at(`[A-Z][a-zA-Z0-9_]*`)},
			{kind: 3, re: at(`\$true|\$false`), alone: true},
			{kind: 4, re: at(`<=>|=>|!=|\(|\)|\[|\]|,|:|!|\?|~|&|\||=`)},
		},
	}
}

// lex: what Lex is asked to answer.
func (m model) lex(s string) ([]Token, int, api.Errno) {
	var list []Token
	at := 0
	for {
		at += len(m.blanks.FindString(s[at:]))
		if at == len(s) {
			return list, 0, api.OK
		}
		kind, raw := m.begins(s[at:])
		text := raw
		if strings.HasPrefix(raw, "'") {
			text = strings.NewReplacer(`\\`, `\`, `\'`, `'`).Replace(raw[1 : len(raw)-1])
			if text == "" || m.first.MatchString(text) {
				kind = 0
			}
		}
		switch {
		case kind == 0:
			return nil, at, api.ErrToken
		case kind <= 2 && len(text) >= api.MaxName:
			return nil, at, api.ErrBig
		}
		list = append(list, Token{Kind: kind, At: at, Text: text})
		at += len(raw)
	}
}

// begins: the kind of the token that begins s, and its bytes.
func (m model) begins(s string) (int, string) {
	for _, shape := range m.shapes {
		raw := shape.re.FindString(s)
		if raw != "" && !(shape.alone && m.wordByte.MatchString(s[len(raw):])) {
			return shape.kind, raw
		}
	}
	return 0, ""
}

// told: an answer as a text that no other one has.
func told(list []Token, at int, err api.Errno) string {
	var b strings.Builder
	for _, token := range list {
		fmt.Fprintf(&b, "{%d %d %q}", token.Kind, token.At, token.Text)
	}
	return fmt.Sprintf("%s at %d error %d", b.String(), at, int(err))
}

// asModel: does Lex answer what the model does?
func (m model) asModel(t *testing.T, s string) {
	t.Helper()
	if got, want := told(Lex(s)), told(m.lex(s)); got != want {
		t.Fatalf("Lex(%q): %.500s, not %.500s", s, got, want)
	}
}

// texts: all of these pieces, up to so many of them.
func texts(count int, pieces ...string) iter.Seq[string] {
	return func(yield func(string) bool) {
		var grow func(s string, left int) bool
		grow = func(s string, left int) bool {
			if !yield(s) {
				return false
			}
			for _, piece := range pieces {
				if left > 0 && !grow(s+piece, left-1) {
					return false
				}
			}
			return true
		}
		grow("", count)
	}
}

// P1201: all short texts of bytes that mean something.
func TestLexAllShort(t *testing.T) {
	m := newModel()
	for s := range texts(4, strings.Split("a A 0 _ ' \\ $ @ = > < ! % ( \n \x7f é", " ")...) {
		m.asModel(t, s)
		m.asModel(t, " "+s)
	}
}

// P1201: all quoted names, whole or not, of the bytes that count there.
func TestLexAllQuoted(t *testing.T) {
	m := newModel()
	for s := range texts(7, "'", `\`, "a", "A", " ") {
		m.asModel(t, s)
	}
	for s := range texts(5, "'", `\`, "@", "$", "%", "~", "\t", "\x80") {
		m.asModel(t, "'"+s)
	}
}

// P1201: all texts of a few marks and of pieces of marks, and of dollar words and their pieces.
func TestLexAllMarks(t *testing.T) {
	m := newModel()
	for s := range texts(6, "<", "=", ">", "!", " ") {
		m.asModel(t, s)
	}
	for s := range texts(3, "<=>", "=>", "!=", "(", ")", "[", "]", ",", ":", "!", "?", "~", "&", "|", "=", " ") {
		m.asModel(t, s)
	}
	for s := range texts(5, "$", "true", "false", "t", "'a'", "_", " ", "(") {
		m.asModel(t, s)
	}
}

// P1201: long texts by chance: most pieces are right, so that many tokens come ahead of the first error.
func TestLexChance(t *testing.T) {
	m := newModel()
	r := rand.New(rand.NewSource(12))
	right := []string{
		"p", "aB_9", "X", "X_1", "$true", "$false", "'a b'", `'it\'s'`, `'\\'`, "'%'", "''a'", "<=>", "=>", "!=", "(", ")", "[", "]",
		",", ":", "!", "?", "~", "&", "|", "=", " ", "\t", "\r", "  ", strings.Repeat("n", 63), strings.Repeat("V", 62), strings.Repeat("n", 40),
	}
	wrong := []string{"\n", "@", "$x", "'A'", "''", "'", `\`, "<", ">", "0", "_", "é", "\xff", "\x00", "%", `'\a'`, strings.Repeat("n", 64)}
	wholes := 0
	for range 40000 {
		var b strings.Builder
		for range r.Intn(40) {
			if r.Intn(60) == 0 {
				b.WriteString(wrong[r.Intn(len(wrong))])
			} else {
				b.WriteString(right[r.Intn(len(right))])
				b.WriteString([]string{"", " "}[r.Intn(2)])
			}
		}
		m.asModel(t, b.String())
		if list, _, err := Lex(b.String()); err == api.OK && len(list) > 9 {
			wholes++
		}
	}
	if wholes < 5000 {
		t.Errorf("only %d of the texts had many tokens and no error", wholes)
	}
}

// P1201: bytes by chance.
func TestLexBytes(t *testing.T) {
	m := newModel()
	r := rand.New(rand.NewSource(13))
	for range 40000 {
		b := make([]byte, r.Intn(12))
		for i := range b {
			b[i] = byte(r.Intn(256))
			if r.Intn(3) > 0 {
				b[i] &= 0x7f
			}
		}
		m.asModel(t, string(b))
		m.asModel(t, "'"+string(b)+"'")
	}
}
