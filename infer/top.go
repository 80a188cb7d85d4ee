package infer

import (
	"scriptor/api"
	"scriptor/kind"
	"scriptor/parse"
)

// con is a constructor: of which data type, that has how many parts; its
// arguments' types, where the variable i is the i-th of these parts.
type con struct {
	data  string
	parts int
	args  []kind.Type
}

// con is the type of a constructor with its arguments, of which one tells the types.
func (c *checker) con(n parse.Node, one func(parse.Node) kind.Type) kind.Type {
	con, ok := c.cons[n.Text]
	ask(ok && len(con.args) == len(n.Kids), n.At)
	var places []int
	var parts []kind.Type
	for i := range con.parts {
		places = append(places, i)
		parts = append(parts, c.solver.Fresh())
	}
	for i, k := range n.Kids {
		t := one(k)
		c.has(kind.Swap(con.args[i], places, parts), t, k.At)
	}
	return of(con.data, parts...)
}

// top is a node of a program.
func (c *checker) top(n parse.Node) {
	// No tree of a program has more nodes than its text has bytes.
	c.left = api.MaxText
	c.look(n)
	switch n.Op {
	case parse.Data:
		c.data(n)
	case parse.Root:
		c.root(n)
	case parse.Def:
		c.tell(n.Text, c.expr(n.Kids[0]))
		c.bindTo(n.Text, n.Kids[0], c.told[len(c.told)-1].kind)
	case parse.DefRec:
		c.tell(n.Text, c.knowsItself(n))
		c.bindTo(n.Text, n.Kids[0], c.told[len(c.told)-1].kind)
	case parse.Do:
		c.tell("", c.expr(n.Kids[0]))
	default:
		panic(wrong{n.At, api.ErrType})
	}
}

func (c *checker) tell(name string, t kind.Type) {
	c.told = append(c.told, told{name, t})
}

func (c *checker) root(n parse.Node) {
	_, there := c.roots[n.Text]
	ask(!there, n.At)
	c.roots[n.Text] = struct{}{}
	t := c.typ(n.Kids[0], nil)
	c.has(t, c.expr(n.Kids[1]), n.At)
	c.tell(n.Text, of("pref", t))
	c.bindOne(n.Text, of("pref", t))
}

func (c *checker) data(n parse.Node) {
	_, there := c.datas[n.Text]
	ask(!there, n.At)
	places := map[string]int{}
	for _, k := range n.Kids {
		if k.Op == parse.TVar {
			_, twice := places[k.Text]
			ask(!twice, n.At)
			places[k.Text] = len(places)
		}
	}
	c.datas[n.Text] = len(places)
	for _, k := range n.Kids {
		if k.Op != parse.TVar {
			c.dataCon(n.Text, places, k)
		}
	}
}

// dataCon is one of a data type's constructors, where the variables have these places.
func (c *checker) dataCon(data string, places map[string]int, n parse.Node) {
	c.look(n)
	_, there := c.cons[n.Text]
	ask(n.Op == parse.DCon && !there, n.At)
	con := con{data: data, parts: len(places)}
	for _, k := range n.Kids {
		con.args = append(con.args, c.typ(k, places))
	}
	c.cons[n.Text] = con
}

// typ is the type that a node says, with the variables of these places in it.
func (c *checker) typ(n parse.Node, places map[string]int) kind.Type {
	c.look(n)
	if n.Op == parse.TVar {
		i, ok := places[n.Text]
		ask(ok, n.At)
		return kind.Var(i)
	}
	ask(n.Op == parse.TName && c.isType(n.Text, len(n.Kids)), n.At)
	var kids []kind.Type
	for _, k := range n.Kids {
		kids = append(kids, c.typ(k, places))
	}
	return of(n.Text, kids...)
}

// isType: is there such a type of so many parts?
func (c *checker) isType(name string, parts int) bool {
	switch name {
	case "->":
		return parts == 2
	case "tuple", "ref", "pref":
		return true
	}
	count, ok := c.datas[name]
	return ok && count == parts
}
