package syntax

import "assize/lexer"

// reader: goes through the tokens of a text. What does not fit leaves it by a panic, with the token that does not fit next.
type reader struct {
	rest []lexer.Token
	end  int // the text's length
}

// misfit: why a token may not stand there is never told, only where it stands.
type misfit struct{}

// ahead: the next token; behind the last one a token of no kind, at the text's end.
func (r *reader) ahead() lexer.Token {
	if len(r.rest) == 0 {
		return lexer.Token{At: r.end}
	}
	return r.rest[0]
}

// sign: the next token's text, if it is a mark or a dollar word: a quoted name may have the same text.
func (r *reader) sign() string {
	if token := r.ahead(); token.Kind == lexer.Mark || token.Kind == lexer.Dollar {
		return token.Text
	}
	return ""
}

// skip: is that sign next? Then it is gone.
func (r *reader) skip(sign string) bool {
	if r.sign() != sign {
		return false
	}
	r.rest = r.rest[1:]
	return true
}

// must: that sign is next, and then gone.
func (r *reader) must(sign string) {
	if !r.skip(sign) {
		panic(misfit{})
	}
}

// take: a token of that kind is next, and then gone.
func (r *reader) take(kind int) lexer.Token {
	token := r.ahead()
	if token.Kind != kind {
		panic(misfit{})
	}
	r.rest = r.rest[1:]
	return token
}

// finish: no token is left.
func (r *reader) finish() {
	if len(r.rest) > 0 {
		panic(misfit{})
	}
}
