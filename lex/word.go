package lex

import (
	"strings"

	"scriptor/api"
	"scriptor/num"
)

// word is the token of a word, without its place; false: it is none.
func word(s string) (Token, bool) {
	n, err := num.Read(s)
	if err == api.OK {
		return Token{Kind: Int, Num: n}, true
	}
	if err != api.ErrForm {
		// A minus and digits alone are no name, also where they are no integer.
		return Token{}, false
	}
	// Looked for ahead of names: with a minus it could be one.
	if x, err := num.ReadFloat(s); err == api.OK {
		return Token{Kind: Float, Text: bits(x)}, true
	}
	switch {
	case len(s) > api.MaxName:
		return Token{}, false
	case isCon(s):
		return Token{Kind: Con, Text: strings.Clone(s)}, true
	case isName(s):
		return Token{Kind: Name, Text: strings.Clone(s)}, true
	}
	return Token{}, false
}

// bits are a float's, as eight bytes, the highest first.
func bits(x num.Float) string {
	var b [8]byte
	for i := range b {
		b[i] = byte(x >> (56 - 8*i))
	}
	return string(b[:])
}

func isCon(s string) bool {
	if !isUpper(s[0]) {
		return false
	}
	for i := range len(s) {
		if !isLetter(s[i]) && !isDigit(s[i]) {
			return false
		}
	}
	return true
}

// isName: is it one, if it isn't a minus and digits alone?
func isName(s string) bool {
	if isUpper(s[0]) || isDigit(s[0]) {
		return false
	}
	for i := range len(s) {
		if !isLetter(s[i]) && !isDigit(s[i]) && !isSign(s[i]) {
			return false
		}
	}
	return true
}

func isUpper(c byte) bool { return 'A' <= c && c <= 'Z' }

func isLetter(c byte) bool { return isUpper(c) || 'a' <= c && c <= 'z' }

func isDigit(c byte) bool { return '0' <= c && c <= '9' }

func isSign(c byte) bool { return strings.IndexByte("'+*/<>=!?_.-", c) >= 0 }
