package infer

import (
	"scriptor/api"
	"scriptor/kind"
	"scriptor/parse"
)

func (c *checker) expr(n parse.Node) kind.Type { return c.within(n, c.exprOf) }

func (c *checker) exprOf(n parse.Node) kind.Type {
	switch n.Op {
	case parse.Int:
		return of("int")
	case parse.Float:
		return of("float")
	case parse.Str:
		return of("string")
	case parse.Unit:
		return of("unit")
	case parse.Var:
		return c.use(n)
	case parse.Con:
		return c.con(n, c.expr)
	case parse.Fn:
		return c.fn(n)
	case parse.App:
		return c.app(n)
	case parse.Let:
		return c.let(n)
	case parse.Rec:
		return c.rec(n)
	case parse.If:
		return c.ifs(n)
	case parse.Seq:
		types := c.each(n.Kids)
		return types[len(types)-1]
	case parse.Tup:
		return of("tuple", c.each(n.Kids)...)
	case parse.Case:
		return c.cases(n)
	case parse.Try:
		return c.try(n)
	case parse.Raise:
		c.has(of("exn"), c.expr(n.Kids[0]), n.Kids[0].At)
		return c.solver.Fresh()
	case parse.Trans:
		return c.expr(n.Kids[0])
	}
	panic(wrong{n.At, api.ErrType})
}

func (c *checker) each(l []parse.Node) []kind.Type {
	var types []kind.Type
	for _, n := range l {
		types = append(types, c.expr(n))
	}
	return types
}

func (c *checker) fn(n parse.Node) kind.Type {
	last := len(n.Kids) - 1
	outside := len(c.names.list)
	var types []kind.Type
	for _, p := range n.Kids[:last] {
		types = append(types, c.pattern(p))
	}
	types = append(types, c.expr(n.Kids[last]))
	c.names.cut(outside)
	return arrow(types...)
}

func (c *checker) app(n parse.Node) kind.Type {
	f := c.expr(n.Kids[0])
	for _, k := range n.Kids[1:] {
		a := c.expr(k)
		r := c.solver.Fresh()
		c.has(f, arrow(a, r), k.At)
		f = r
	}
	return f
}

func (c *checker) let(n parse.Node) kind.Type {
	t := c.expr(n.Kids[0])
	outside := len(c.names.list)
	if n.Text != "_" {
		c.bindTo(n.Text, n.Kids[0], t)
	}
	body := c.expr(n.Kids[1])
	c.names.cut(outside)
	return body
}

func (c *checker) rec(n parse.Node) kind.Type {
	t := c.knowsItself(n)
	outside := len(c.names.list)
	c.bindTo(n.Text, n.Kids[0], t)
	body := c.expr(n.Kids[1])
	c.names.cut(outside)
	return body
}

// knowsItself is the type of a node's first Kid, a function within which the node's name is that function.
func (c *checker) knowsItself(n parse.Node) kind.Type {
	v := c.solver.Fresh()
	outside := len(c.names.list)
	c.bindOne(n.Text, v)
	t := c.expr(n.Kids[0])
	c.names.cut(outside)
	c.has(v, t, n.At)
	c.full(t, n.At)
	return t
}

func (c *checker) ifs(n parse.Node) kind.Type {
	c.has(of("bool"), c.expr(n.Kids[0]), n.Kids[0].At)
	t := c.expr(n.Kids[1])
	c.has(t, c.expr(n.Kids[2]), n.Kids[2].At)
	return t
}

func (c *checker) cases(n parse.Node) kind.Type {
	s := c.expr(n.Kids[0])
	var first kind.Type
	for i, a := range n.Kids[1:] {
		t := c.arm(a, s)
		if i == 0 {
			first = t
			continue
		}
		c.has(first, t, a.Kids[1].At)
	}
	return first
}

func (c *checker) try(n parse.Node) kind.Type {
	t := c.expr(n.Kids[0])
	for _, a := range n.Kids[1:] {
		c.has(t, c.arm(a, of("exn")), a.Kids[1].At)
	}
	return t
}

// arm is the type of its expression; its pattern is of values of type s.
func (c *checker) arm(a parse.Node, s kind.Type) kind.Type {
	c.look(a)
	ask(a.Op == parse.Arm, a.At)
	p, e := a.Kids[0], a.Kids[1]
	outside := len(c.names.list)
	c.has(s, c.pattern(p), p.At)
	t := c.expr(e)
	c.names.cut(outside)
	return t
}

// pattern is its type; its variables are bound from now on.
func (c *checker) pattern(n parse.Node) kind.Type { return c.within(n, c.patternOf) }

func (c *checker) patternOf(n parse.Node) kind.Type {
	switch n.Op {
	case parse.PAny:
		return c.solver.Fresh()
	case parse.PVar:
		t := c.solver.Fresh()
		c.bindOne(n.Text, t)
		return t
	case parse.PInt:
		return of("int")
	case parse.PStr:
		return of("string")
	case parse.PUnit:
		return of("unit")
	case parse.PCon:
		return c.con(n, c.pattern)
	case parse.PTup:
		var types []kind.Type
		for _, k := range n.Kids {
			types = append(types, c.pattern(k))
		}
		return of("tuple", types...)
	}
	panic(wrong{n.At, api.ErrType})
}
