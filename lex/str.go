package lex

import "scriptor/api"

// str is what the string says that comes next.
func (t *text) str() string {
	first := t.at
	t.take()
	var b []byte
	for t.more() && t.see() != '"' {
		b = append(b, t.char(first))
	}
	if !t.more() {
		panic(syntax(first))
	}
	t.take()
	if len(b) > api.MaxStr {
		panic(syntax(first))
	}
	return string(b)
}

// char is the byte that comes next in the string that begins at first.
func (t *text) char(first api.Pos) byte {
	if t.see() < ' ' {
		panic(syntax(t.at))
	}
	if c := t.take(); c != '\\' {
		return c
	}
	if !t.more() {
		panic(syntax(first))
	}
	at := t.at
	switch c := t.take(); c {
	case '"', '\\':
		return c
	case 'n':
		return '\n'
	case 'x':
		high := t.digit(at)
		return high<<4 | t.digit(at)
	}
	panic(syntax(at))
}

// digit is what the one says that comes next, behind the x at that place.
func (t *text) digit(x api.Pos) byte {
	if t.more() {
		switch c := t.take(); {
		case '0' <= c && c <= '9':
			return c - '0'
		case 'a' <= c && c <= 'f':
			return c - 'a' + 10
		}
	}
	panic(syntax(x))
}
