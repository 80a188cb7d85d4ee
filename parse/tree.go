package parse

import (
	"strings"

	"scriptor/api"
	"scriptor/lex"
)

// tree is a token that is no bracket; or Open, and the trees up to what closes it.
type tree struct {
	first lex.Token
	kids  []tree
}

// brackets throws the first one that is wrong.
func brackets(tokens []lex.Token) {
	var open []api.Pos
	for _, t := range tokens {
		switch t.Kind {
		case lex.Open:
			if len(open) == api.MaxDepth {
				panic(syntax(t.At))
			}
			open = append(open, t.At)
		case lex.Close:
			if len(open) == 0 {
				panic(syntax(t.At))
			}
			open = open[:len(open)-1]
		}
	}
	if len(open) > 0 {
		panic(syntax(open[0]))
	}
}

// grow makes the trees ahead of a bracket that closes none of theirs, and tells how many tokens they have.
func grow(tokens []lex.Token) ([]tree, int) {
	var out []tree
	n := 0
	for n < len(tokens) && tokens[n].Kind != lex.Close {
		t := tree{first: tokens[n]}
		n++
		if t.isBracket() {
			kids, size := grow(tokens[n:])
			t.kids = kids
			n += size + 1
		}
		out = append(out, t)
	}
	return out, n
}

// ask throws the tree as wrong, if it isn't as it should be.
func (t tree) ask(ok bool) {
	if !ok {
		panic(syntax(t.first.At))
	}
}

// askCount asks for so many trees behind the first one of a bracket.
func (t tree) askCount(least, most int) {
	n := len(t.kids) - 1
	t.ask(least <= n && n <= most)
}

func (t tree) isBracket() bool { return t.first.Kind == lex.Open }

func (t tree) isName() bool { return t.first.Kind == lex.Name }

func (t tree) isCon() bool { return t.first.Kind == lex.Con }

func (t tree) isKept() bool {
	if !t.isName() {
		return false
	}
	switch t.first.Text {
	case "fn", "let", "rec", "if", "seq", "tuple", "case", "try", "raise", "transact", "data", "root", "def", "do":
		return true
	}
	return false
}

func (t tree) isVariable() bool {
	return t.isName() && !t.isKept() && !t.isAny() && !strings.HasPrefix(t.first.Text, "'")
}

// isAny: is it what stands where a value gets no name?
func (t tree) isAny() bool { return t.isName() && t.first.Text == "_" }

func (t tree) isTypeName() bool {
	switch t.first.Text {
	case "->", "tuple", "ref", "pref":
		return false
	}
	return t.isVariable()
}

func (t tree) isTypeVar() bool {
	return t.isName() && len(t.first.Text) >= 2 && t.first.Text[0] == '\''
}

// head is the word that a bracket begins with; else none.
func (t tree) head() string {
	if len(t.kids) == 0 || !t.kids[0].isName() {
		return ""
	}
	return t.kids[0].first.Text
}

func (t tree) isFn() bool { return t.head() == "fn" }

// node is what the tree says, of these parts.
func (t tree) node(op int, kids ...Node) Node {
	return Node{Op: op, At: t.first.At, Kids: kids}
}

// named is likewise, with the text of a word.
func (t tree) named(op int, word tree, kids ...Node) Node {
	n := t.node(op, kids...)
	n.Text = word.first.Text
	return n
}

// each is what all trees say.
func each(trees []tree, say func(tree) Node) []Node {
	var out []Node
	for _, t := range trees {
		out = append(out, say(t))
	}
	return out
}
