package parse

import (
	"math"

	"scriptor/api"
	"scriptor/lex"
)

func expr(t tree) Node {
	switch {
	case !t.isBracket():
		return atom(t)
	case len(t.kids) == 0:
		return t.node(Unit)
	case t.kids[0].isCon():
		t.askCount(1, api.MaxArgs)
		return t.named(Con, t.kids[0], each(t.kids[1:], expr)...)
	case t.kids[0].isKept():
		return special(t)
	}
	t.askCount(1, api.MaxArgs)
	return t.node(App, each(t.kids, expr)...)
}

// atom is the expression of a token.
func atom(t tree) Node {
	switch t.first.Kind {
	case lex.Int:
		return Node{Op: Int, At: t.first.At, Num: t.first.Num}
	case lex.Float:
		return t.named(Float, t)
	case lex.Str:
		return t.named(Str, t)
	case lex.Con:
		return t.named(Con, t)
	}
	t.ask(t.isVariable())
	return t.named(Var, t)
}

// special is the expression of a bracket that begins with a kept word.
func special(t tree) Node {
	behind := t.kids[1:]
	switch t.head() {
	case "fn":
		return fn(t)
	case "let":
		t.askCount(3, 3)
		t.ask(t.kids[1].isVariable() || t.kids[1].isAny())
		return t.named(Let, t.kids[1], each(t.kids[2:], expr)...)
	case "rec":
		t.askCount(3, 3)
		t.ask(t.kids[1].isVariable() && t.kids[2].isFn())
		return t.named(Rec, t.kids[1], each(t.kids[2:], expr)...)
	case "if":
		t.askCount(3, 3)
		return t.node(If, each(behind, expr)...)
	case "seq":
		t.askCount(1, math.MaxInt)
		return t.node(Seq, each(behind, expr)...)
	case "tuple":
		t.askCount(2, api.MaxArgs)
		return t.node(Tup, each(behind, expr)...)
	case "case":
		return withArms(t, Case)
	case "try":
		return withArms(t, Try)
	case "raise":
		t.askCount(1, 1)
		return t.node(Raise, each(behind, expr)...)
	case "transact":
		t.askCount(1, 1)
		return t.node(Trans, each(behind, expr)...)
	}
	panic(syntax(t.first.At))
}

func fn(t tree) Node {
	t.askCount(2, 2)
	params := t.kids[1]
	t.ask(params.isBracket() && 1 <= len(params.kids) && len(params.kids) <= api.MaxArgs)
	for _, p := range params.kids {
		// A wrong one is told by the place of the whole.
		t.ask(p.isVariable() || p.isAny())
	}
	kids := each(params.kids, pattern)
	return t.node(Fn, append(kids, expr(t.kids[2]))...)
}

// withArms is of an expression, and what is done with its value.
func withArms(t tree, op int) Node {
	t.askCount(2, math.MaxInt)
	e := expr(t.kids[1])
	return t.node(op, append([]Node{e}, each(t.kids[2:], arm)...)...)
}

func arm(t tree) Node {
	t.ask(t.isBracket() && len(t.kids) == 2)
	p := pattern(t.kids[0])
	t.kids[0].ask(!namesTwice(p, map[string]struct{}{}))
	return t.node(Arm, p, expr(t.kids[1]))
}

func pattern(t tree) Node {
	switch {
	case !t.isBracket():
		return patternAtom(t)
	case len(t.kids) == 0:
		return t.node(PUnit)
	case t.kids[0].isCon():
		t.askCount(1, api.MaxArgs)
		return t.named(PCon, t.kids[0], each(t.kids[1:], pattern)...)
	}
	t.ask(t.head() == "tuple")
	t.askCount(2, api.MaxArgs)
	return t.node(PTup, each(t.kids[1:], pattern)...)
}

// patternAtom is the pattern of a token.
func patternAtom(t tree) Node {
	switch {
	case t.isAny():
		return t.node(PAny)
	case t.first.Kind == lex.Int:
		return Node{Op: PInt, At: t.first.At, Num: t.first.Num}
	case t.first.Kind == lex.Str:
		return t.named(PStr, t)
	case t.isCon():
		return t.named(PCon, t)
	}
	t.ask(t.isVariable())
	return t.named(PVar, t)
}

// namesTwice: does a variable stand twice in it, or also among those ahead?
func namesTwice(p Node, ahead map[string]struct{}) bool {
	if p.Op == PVar {
		_, ok := ahead[p.Text]
		ahead[p.Text] = struct{}{}
		return ok
	}
	for _, k := range p.Kids {
		if namesTwice(k, ahead) {
			return true
		}
	}
	return false
}
