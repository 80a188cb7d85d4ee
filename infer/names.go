package infer

import (
	"slices"

	"scriptor/api"
	"scriptor/kind"
	"scriptor/parse"
)

// binding is a name, and what it is bound to.
type binding struct {
	name string
	kind kind.Type
	all  map[int]struct{} // the variables that stand for any types
	// open: is it bound without "for all types", and may it have variables?
	open bool
	// vars are those of its type, in full, when they were asked for; nil: they weren't.
	vars []int
	// under is the binding of that name which it hides; -1: there is none.
	under int
}

// names are those that are bound, from outside to inside; those that are hidden, too.
type names struct {
	list []binding
	top  map[string]int // of a name, the binding that counts
}

func (s *names) bind(b binding) {
	under, ok := s.top[b.name]
	if !ok {
		under = -1
	}
	b.under = under
	s.top[b.name] = len(s.list)
	s.list = append(s.list, b)
}

// cut leaves the first n bindings.
func (s *names) cut(n int) {
	for len(s.list) > n {
		last := s.list[len(s.list)-1]
		if last.under < 0 {
			delete(s.top, last.name)
		} else {
			s.top[last.name] = last.under
		}
		s.list = s.list[:len(s.list)-1]
	}
}

// bindOne binds a name to a type as it is.
func (c *checker) bindOne(name string, t kind.Type) {
	c.names.bind(binding{name: name, kind: t, open: true})
}

// bindTo binds a name to an expression of that type.
func (c *checker) bindTo(name string, e parse.Node, t kind.Type) {
	if !isValue(e) {
		c.bindOne(name, t)
		return
	}
	full := c.full(t, e.At)
	c.names.bind(binding{name: name, kind: full, all: c.forAll(full)})
}

// isValue: does nothing happen where it is reckoned, so that it may be of any type?
func isValue(e parse.Node) bool {
	switch e.Op {
	case parse.Fn, parse.Int, parse.Float, parse.Str, parse.Unit, parse.Var:
		return true
	case parse.Con, parse.Tup:
		for _, k := range e.Kids {
			if !isValue(k) {
				return false
			}
		}
		return true
	}
	return false
}

// forAll are the variables of a type, in full, that no binding has that is one
// type's. A binding that is hidden counts, too: what was bound inside it may have
// its variables.
func (c *checker) forAll(full kind.Type) map[int]struct{} {
	all := map[int]struct{}{}
	for _, v := range kind.Vars(full) {
		all[v] = struct{}{}
	}
	for i := range c.names.list {
		if len(all) == 0 {
			break
		}
		for _, v := range c.openVars(&c.names.list[i]) {
			delete(all, v)
		}
	}
	return all
}

// openVars are the variables of a binding that is open. A binding that has none,
// or whose type is too big, stays so; and its type is as it was as long as none
// of its variables stands for anything: names may be many, and their types great.
func (c *checker) openVars(b *binding) []int {
	if !b.open || b.vars != nil && !slices.ContainsFunc(b.vars, c.stands) {
		return b.vars
	}
	b.vars = nil
	if full, err := c.solver.Full(b.kind); err == api.OK {
		b.vars = kind.Vars(full)
	}
	b.open = b.vars != nil
	return b.vars
}

// stands: does a variable stand for anything by now?
func (c *checker) stands(v int) bool {
	t, err := c.solver.Full(kind.Var(v))
	return err != api.OK || t.Op != 0 || t.Num != v
}

// use is the type of a name, where it stands: with variables of its own in the
// place of those that are for all types.
func (c *checker) use(n parse.Node) kind.Type {
	i, ok := c.names.top[n.Text]
	ask(ok, n.At)
	b := c.names.list[i]
	full := c.full(b.kind, n.At)
	var vars []int
	var by []kind.Type
	for _, v := range kind.Vars(full) {
		if _, ok := b.all[v]; ok {
			vars = append(vars, v)
			by = append(by, c.solver.Fresh())
		}
	}
	return kind.Swap(full, vars, by)
}
