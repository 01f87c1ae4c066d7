package lexer

import (
	"strings"

	"assize/api"
)

const (
	quote  = '\''
	escape = '\\'
)

// longest: how many bytes a name or a variable may have. One less than names of terms: a predicate has a sign ahead of its name.
const longest = api.MaxName - 1

// Plain: may the name stand without quotes, as far as its bytes go?
func Plain(name string) bool { return name != "" && isSmall(name[0]) && wordSize(name) == len(name) }

// IsName: may it be a name, quoted or not?
func IsName(name string) bool {
	if !beginsName(name) || len(name) > longest {
		return false
	}
	for i := range len(name) {
		if !isPrintable(name[i]) {
			return false
		}
	}
	return true
}

// IsVar: may it be a variable?
func IsVar(name string) bool {
	return name != "" && len(name) <= longest && isCapital(name[0]) && wordSize(name) == len(name)
}

// Show: the name as a text has it.
func Show(name string) string {
	if Plain(name) {
		return name
	}
	var text strings.Builder
	text.WriteByte(quote)
	for i := range len(name) {
		if isEscaped(name[i]) {
			text.WriteByte(escape)
		}
		text.WriteByte(name[i])
	}
	text.WriteByte(quote)
	return text.String()
}

// beginsName: is there a first byte, and may a name begin with it?
func beginsName(name string) bool {
	return name != "" && !isCapital(name[0]) && name[0] != '@' && name[0] != '$'
}

// wordSize: how many of the first bytes of s are a word's bytes.
func wordSize(s string) int {
	size := 0
	for size < len(s) && isWord(s[size]) {
		size++
	}
	return size
}

func isSmall(c byte) bool { return 'a' <= c && c <= 'z' }

func isCapital(c byte) bool { return 'A' <= c && c <= 'Z' }

func isWord(c byte) bool { return isSmall(c) || isCapital(c) || '0' <= c && c <= '9' || c == '_' }

// isPrintable: may it stand in a name?
func isPrintable(c byte) bool { return 0x20 <= c && c <= 0x7e }

// isEscaped: does it stand in a quoted name with a sign ahead alone?
func isEscaped(c byte) bool { return c == quote || c == escape }
