package infer

import (
	"scriptor/kind"
	"scriptor/parse"
)

// Prim is what is bound ahead of every program.
type Prim struct {
	Name string
	Args int
	Type kind.Type
}

// Prims: all of them.
func Prims() []Prim {
	of := func(names ...string) []kind.Type {
		var l []kind.Type
		for _, s := range names {
			l = append(l, kind.Con(s))
		}
		return l
	}
	a := kind.Var(1)
	ref, pref, unit := kind.Con("ref", a), kind.Con("pref", a), kind.Con("unit")
	var out []Prim
	for _, row := range []struct {
		names []string
		types []kind.Type
	}{
		{[]string{"+", "-", "*", "div", "mod"}, of("int", "int", "int")},
		{[]string{"neg"}, of("int", "int")},
		{[]string{"<", "<=", "="}, of("int", "int", "bool")},
		{[]string{"f+", "f-", "f*", "f/"}, of("float", "float", "float")},
		{[]string{"fsqrt", "fneg"}, of("float", "float")},
		{[]string{"f<", "f=", "fahead"}, of("float", "float", "bool")},
		{[]string{"itof"}, of("int", "float")},
		{[]string{"ftoi"}, of("float", "int")},
		{[]string{"fbits"}, of("float", "string")},
		{[]string{"nan", "inf"}, of("float")},
		{[]string{"cat"}, of("string", "string", "string")},
		{[]string{"len", "ord", "atoi"}, of("string", "int")},
		{[]string{"sub"}, of("string", "int", "int", "string")},
		{[]string{"s=", "s<"}, of("string", "string", "bool")},
		{[]string{"itoa", "chr"}, of("int", "string")},
		{[]string{"print"}, of("string", "unit")},
		{[]string{"read"}, of("unit", "string")},
		{[]string{"ref"}, []kind.Type{a, ref}},
		{[]string{"get"}, []kind.Type{ref, a}},
		{[]string{"set"}, []kind.Type{ref, a, unit}},
		{[]string{"new"}, []kind.Type{a, pref}},
		{[]string{"load"}, []kind.Type{pref, a}},
		{[]string{"store"}, []kind.Type{pref, a, unit}},
	} {
		for _, s := range row.names {
			// A copy: no two of the answer share a list.
			t := kind.Swap(arrow(row.types...), nil, nil)
			out = append(out, Prim{s, len(row.types) - 1, t})
		}
	}
	return out
}

// Con is a constructor: its data type, which one of it it is, how many arguments it has.
type Con struct {
	Name string
	Data string
	Num  int
	Args int
}

// Cons: those that there are ahead of every program, and its own.
func Cons(l ...parse.Node) []Con {
	out := []Con{
		{"False", "bool", 0, 0}, {"True", "bool", 1, 0},
		{"Div", "exn", 0, 0}, {"Match", "exn", 1, 0}, {"Abort", "exn", 2, 0}, {"Keep", "exn", 3, 0}, {"Out", "exn", 4, 0}, {"Fail", "exn", 5, 1},
	}
	for _, n := range l {
		if n.Op == parse.Data {
			out = append(out, consOf(n)...)
		}
	}
	return out
}

// consOf are those of a data type.
func consOf(n parse.Node) []Con {
	var out []Con
	for _, k := range n.Kids {
		if k.Op == parse.DCon {
			out = append(out, Con{k.Text, n.Text, len(out), len(k.Kids)})
		}
	}
	return out
}
