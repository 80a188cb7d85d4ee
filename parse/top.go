package parse

import (
	"math"

	"scriptor/api"
)

// top is one of the trees of a program.
func top(t tree) Node {
	switch t.head() {
	case "data":
		return data(t)
	case "root":
		t.askCount(3, 3)
		t.ask(t.kids[1].isVariable())
		return t.named(Root, t.kids[1], typ(t.kids[2]), expr(t.kids[3]))
	case "def":
		t.askCount(2, 2)
		t.ask(t.kids[1].isVariable())
		return t.named(Def, t.kids[1], expr(t.kids[2]))
	case "rec":
		t.askCount(2, 2)
		t.ask(t.kids[1].isVariable() && t.kids[2].isFn())
		return t.named(DefRec, t.kids[1], expr(t.kids[2]))
	case "do":
		t.askCount(1, 1)
		return t.node(Do, expr(t.kids[1]))
	}
	panic(syntax(t.first.At))
}

func data(t tree) Node {
	t.askCount(3, math.MaxInt)
	vars := t.kids[2]
	t.ask(t.kids[1].isTypeName() && vars.isBracket() && len(vars.kids) <= api.MaxArgs)
	for _, v := range vars.kids {
		// A wrong one is told by the place of the whole.
		t.ask(v.isTypeVar())
	}
	kids := each(vars.kids, typ)
	return t.named(Data, t.kids[1], append(kids, each(t.kids[3:], constructor)...)...)
}

func constructor(t tree) Node {
	t.ask(t.isBracket() && len(t.kids) > 0 && t.kids[0].isCon())
	t.askCount(0, api.MaxArgs)
	return t.named(DCon, t.kids[0], each(t.kids[1:], typ)...)
}

// typ is a type.
func typ(t tree) Node {
	if !t.isBracket() {
		t.ask(t.isTypeVar() || t.isTypeName())
		if t.isTypeVar() {
			return t.named(TVar, t)
		}
		return t.named(TName, t)
	}
	switch t.head() {
	case "->":
		t.askCount(2, math.MaxInt)
		return arrows(t)
	case "tuple":
		t.askCount(2, api.MaxArgs)
	case "ref", "pref":
		t.askCount(1, 1)
	default:
		t.ask(len(t.kids) > 0 && t.kids[0].isTypeName())
		t.askCount(1, api.MaxArgs)
	}
	return t.named(TName, t.kids[0], each(t.kids[1:], typ)...)
}

// arrows is the first type, and an arrow of the others.
func arrows(t tree) Node {
	types := each(t.kids[1:], typ)
	last := len(types) - 1
	out := types[last]
	for i := last - 1; i >= 0; i-- {
		out = t.named(TName, t.kids[0], types[i], out)
	}
	return out
}
