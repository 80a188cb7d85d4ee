package infer

import (
	"fmt"
	"math/rand"
	"slices"
	"strings"
	"testing"

	"scriptor/api"
	"scriptor/parse"
)

// The model is a second way of reckoning: a type's variables are cells, each
// with the level of the innermost binding that they belong to; what is deeper
// than a name's own level is for all types. What is bound ahead is read from the
// chapter's table.

const ahead = `
+ - * | (-> int (-> int int))
div mod | (-> int (-> int int))
neg | (-> int int)
< <= = | (-> int (-> int bool))
f+ f- f* f/ | (-> float (-> float float))
fsqrt fneg | (-> float float)
f< f= fahead | (-> float (-> float bool))
itof | (-> int float)
ftoi | (-> float int)
fbits | (-> float string)
nan inf | float
cat | (-> string (-> string string))
len ord atoi | (-> string int)
sub | (-> string (-> int (-> int string)))
s= s< | (-> string (-> string bool))
itoa chr | (-> int string)
print | (-> string unit)
read | (-> unit string)
ref | (-> 'a (ref 'a))
get | (-> (ref 'a) 'a)
set | (-> (ref 'a) (-> 'a unit))
new | (-> 'a (pref 'a))
load | (-> (pref 'a) 'a)
store | (-> (pref 'a) (-> 'a unit))
`

type aheadOf struct {
	name, text string
	args       int
}

// allAhead are the table's rows, name by name.
func allAhead() []aheadOf {
	var l []aheadOf
	for _, row := range strings.Split(strings.TrimSpace(ahead), "\n") {
		names, text, _ := strings.Cut(row, " | ")
		text = strings.ReplaceAll(text, "'b", "'a")
		args := 0
		// arrows to the right of one another
		for t := parseType(text); t.Text == "->"; t = t.Kids[1] {
			args++
		}
		for _, s := range strings.Fields(names) {
			l = append(l, aheadOf{s, text, args})
		}
	}
	return l
}

func parseType(text string) parse.Node {
	l, _, err := parse.Program("(root r " + text + " 1)")
	if err != api.OK {
		panic(text)
	}
	return l[0].Kids[0]
}

// cell is a type: a variable, or what it stands for; or a name with parts.
type cell struct {
	name  string
	kids  []*cell
	is    *cell
	level int
}

const everyLevel = 1 << 30

type scheme struct {
	name string
	of   *cell
}

type mcon struct {
	data  string
	vars  []string
	types []parse.Node
}

type misfit struct {
	at  api.Pos
	err api.Errno
}

type model struct {
	level int
	env   []scheme
	datas map[string]int
	cons  map[string]mcon
	roots map[string]int
	out   []scheme
}

func (c *cell) end() *cell {
	for c.is != nil {
		c = c.is
	}
	return c
}

// size counts parts, up to 1001.
func (c *cell) size(n *int) {
	c = c.end()
	if *n++; *n <= 1000 {
		for _, k := range c.kids {
			k.size(n)
		}
	}
}

func (c *cell) big() bool {
	n := 0
	c.size(&n)
	return n > 1000
}

// lower puts all variables at a level, if they are at a higher one; false: v is among them.
func (c *cell) lower(level int, v *cell) bool {
	c = c.end()
	if c == v {
		return false
	}
	if c.name == "" {
		c.level = min(c.level, level)
	}
	for _, k := range c.kids {
		if !k.lower(level, v) {
			return false
		}
	}
	return true
}

func (c *cell) show(called map[*cell]string) string {
	c = c.end()
	if c.name == "" {
		if _, ok := called[c]; !ok {
			i := len(called)
			called[c] = fmt.Sprintf("'%c%s", 'a'+i%26, strings.TrimLeft(fmt.Sprint(i/26), "0"))
		}
		return called[c]
	}
	all := []string{c.name}
	for _, k := range c.kids {
		all = append(all, k.show(called))
	}
	if len(all) == 1 {
		return c.name
	}
	return "(" + strings.Join(all, " ") + ")"
}

func made(name string, kids ...*cell) *cell { return &cell{name: name, kids: kids} }

func (m *model) fresh() *cell { return &cell{level: m.level} }

func (m *model) need(ok bool, n parse.Node) {
	if !ok {
		panic(misfit{n.At, api.ErrType})
	}
}

func (m *model) unify(a, b *cell, at api.Pos) {
	pairs := 0
	var one func(a, b *cell) api.Errno
	one = func(a, b *cell) api.Errno {
		if pairs++; pairs > 10000 {
			return api.ErrBig
		}
		a, b = a.end(), b.end()
		switch {
		case a == b && a.name == "":
			return api.OK
		case a.name == "" || b.name == "":
			v, t := a, b
			if a.name != "" {
				v, t = b, a
			}
			if t.big() {
				return api.ErrBig
			}
			if !t.lower(v.level, v) {
				return api.ErrType
			}
			v.is = t
			return api.OK
		case a.name != b.name || len(a.kids) != len(b.kids):
			return api.ErrType
		}
		for i := range a.kids {
			if err := one(a.kids[i], b.kids[i]); err != api.OK {
				return err
			}
		}
		return api.OK
	}
	if err := one(a, b); err != api.OK {
		panic(misfit{at, err})
	}
}

// anew is a type with new cells for all variables that are for all types.
func (m *model) anew(c *cell, done map[*cell]*cell) *cell {
	c = c.end()
	if c.name == "" {
		if c.level != everyLevel {
			return c
		}
		if done[c] == nil {
			done[c] = m.fresh()
		}
		return done[c]
	}
	out := made(c.name)
	for _, k := range c.kids {
		out.kids = append(out.kids, m.anew(k, done))
	}
	return out
}

// free lets all variables that are deeper than the level be for all types.
func (m *model) free(c *cell) {
	c = c.end()
	if c.name == "" && c.level > m.level {
		c.level = everyLevel
	}
	for _, k := range c.kids {
		m.free(k)
	}
}

func isPlain(n parse.Node) bool {
	if n.Op == parse.Con || n.Op == parse.Tup {
		return !slices.ContainsFunc(n.Kids, func(k parse.Node) bool { return !isPlain(k) })
	}
	return slices.Contains([]int{parse.Fn, parse.Int, parse.Float, parse.Str, parse.Unit, parse.Var}, n.Op)
}

// deeper is the type of what is bound to a name.
func (m *model) deeper(e parse.Node, find func() *cell) *cell {
	m.level++
	t := find()
	m.level--
	if isPlain(e) {
		m.free(t)
	} else {
		t.lower(m.level, nil)
	}
	return t
}

func (m *model) with(l []scheme, find func() *cell) *cell {
	before := m.env
	m.env = append(slices.Clone(m.env), l...)
	t := find()
	m.env = before
	return t
}

func (m *model) recursive(n parse.Node) *cell {
	return m.deeper(n.Kids[0], func() *cell {
		v := m.fresh()
		t := m.with([]scheme{{n.Text, v}}, func() *cell { return m.expr(n.Kids[0]) })
		m.unify(v, t, n.At)
		if t.big() {
			panic(misfit{n.At, api.ErrBig})
		}
		return t
	})
}

func (m *model) expr(n parse.Node) *cell {
	t := m.find(n)
	if t.big() {
		panic(misfit{n.At, api.ErrBig})
	}
	return t
}

func (m *model) all(l []parse.Node) []*cell {
	var out []*cell
	for _, n := range l {
		out = append(out, m.expr(n))
	}
	return out
}

func (m *model) find(n parse.Node) *cell {
	switch n.Op {
	case parse.Int, parse.PInt:
		return made("int")
	case parse.Float:
		return made("float")
	case parse.Str, parse.PStr:
		return made("string")
	case parse.Unit, parse.PUnit:
		return made("unit")
	case parse.PAny:
		return m.fresh()
	case parse.PVar:
		v := m.fresh()
		m.env = append(slices.Clone(m.env), scheme{n.Text, v})
		return v
	case parse.Tup, parse.PTup:
		return made("tuple", m.all(n.Kids)...)
	case parse.Seq:
		l := m.all(n.Kids)
		return l[len(l)-1]
	case parse.Trans:
		return m.expr(n.Kids[0])
	case parse.Var:
		for _, s := range slices.Backward(m.env) {
			if s.name == n.Text {
				return m.anew(s.of, map[*cell]*cell{})
			}
		}
		m.need(false, n)
	case parse.Con, parse.PCon:
		c, ok := m.cons[n.Text]
		m.need(ok && len(c.types) == len(n.Kids), n)
		vars := map[string]*cell{}
		data := made(c.data)
		for _, v := range c.vars {
			vars[v] = m.fresh()
			data.kids = append(data.kids, vars[v])
		}
		for i, k := range n.Kids {
			m.unify(said(c.types[i], vars), m.expr(k), k.At)
		}
		return data
	case parse.Fn:
		return m.with(nil, func() *cell {
			l := m.all(n.Kids)
			t := l[len(l)-1]
			for _, p := range slices.Backward(l[:len(l)-1]) {
				t = made("->", p, t)
			}
			return t
		})
	case parse.App:
		f := m.expr(n.Kids[0])
		for _, k := range n.Kids[1:] {
			a, r := m.expr(k), m.fresh()
			m.unify(f, made("->", a, r), k.At)
			f = r
		}
		return f
	case parse.Let:
		t := m.deeper(n.Kids[0], func() *cell { return m.expr(n.Kids[0]) })
		l := []scheme{{n.Text, t}}
		if n.Text == "_" {
			l = nil
		}
		return m.with(l, func() *cell { return m.expr(n.Kids[1]) })
	case parse.Rec:
		t := m.recursive(n)
		return m.with([]scheme{{n.Text, t}}, func() *cell { return m.expr(n.Kids[1]) })
	case parse.If:
		m.unify(made("bool"), m.expr(n.Kids[0]), n.Kids[0].At)
		t := m.expr(n.Kids[1])
		m.unify(t, m.expr(n.Kids[2]), n.Kids[2].At)
		return t
	case parse.Case, parse.Try:
		s, t := m.expr(n.Kids[0]), m.fresh()
		if n.Op == parse.Try {
			s, t = made("exn"), s
		}
		for i, a := range n.Kids[1:] {
			m.with(nil, func() *cell {
				m.unify(s, m.expr(a.Kids[0]), a.Kids[0].At)
				e := m.expr(a.Kids[1])
				if i == 0 && n.Op == parse.Case {
					t = e
				} else {
					m.unify(t, e, a.Kids[1].At)
				}
				return nil
			})
		}
		return t
	case parse.Raise:
		m.unify(made("exn"), m.expr(n.Kids[0]), n.Kids[0].At)
		return m.fresh()
	}
	panic(n.Op)
}

// said is the type that a node says.
func said(n parse.Node, vars map[string]*cell) *cell {
	if n.Op == parse.TVar {
		return vars[n.Text]
	}
	t := made(n.Text)
	for _, k := range n.Kids {
		t.kids = append(t.kids, said(k, vars))
	}
	return t
}

// checkType: are all names in it there?
func (m *model) checkType(n parse.Node, vars []string) {
	if n.Op == parse.TVar {
		m.need(slices.Contains(vars, n.Text), n)
		return
	}
	count, ok := m.datas[n.Text]
	m.need(ok && (count == len(n.Kids) || count < 0), n)
	for _, k := range n.Kids {
		m.checkType(k, vars)
	}
}

func (m *model) data(n parse.Node) {
	_, there := m.datas[n.Text]
	m.need(!there, n)
	var vars []string
	for _, k := range n.Kids {
		if k.Op == parse.TVar {
			m.need(!slices.Contains(vars, k.Text), n)
			vars = append(vars, k.Text)
		}
	}
	m.datas[n.Text] = len(vars)
	for _, k := range n.Kids[len(vars):] {
		_, there := m.cons[k.Text]
		m.need(!there, k)
		for _, t := range k.Kids {
			m.checkType(t, vars)
		}
		m.cons[k.Text] = mcon{n.Text, vars, k.Kids}
	}
}

func (m *model) top(n parse.Node) {
	name, t := n.Text, (*cell)(nil)
	switch n.Op {
	case parse.Data:
		m.data(n)
		return
	case parse.Root:
		m.need(m.roots[n.Text] == 0, n)
		m.roots[n.Text]++
		m.checkType(n.Kids[0], nil)
		t = said(n.Kids[0], nil)
		m.unify(t, m.expr(n.Kids[1]), n.At)
		t = made("pref", t)
	case parse.Def:
		t = m.deeper(n.Kids[0], func() *cell { return m.expr(n.Kids[0]) })
	case parse.DefRec:
		t = m.recursive(n)
	case parse.Do:
		m.out = append(m.out, scheme{"", m.expr(n.Kids[0])})
		return
	}
	m.env = append(slices.Clone(m.env), scheme{name, t})
	m.out = append(m.out, scheme{name, t})
}

func programModel(l []parse.Node) (out []Binding, at api.Pos, err api.Errno) {
	defer func() {
		if w := recover(); w != nil {
			out, at, err = nil, w.(misfit).at, w.(misfit).err
		}
	}()
	m := &model{datas: map[string]int{"->": 2, "tuple": -1, "ref": 1, "pref": 1}, cons: map[string]mcon{}, roots: map[string]int{}}
	for _, s := range strings.Fields("int float string unit bool exn") {
		m.datas[s] = 0
	}
	for s, data := range map[string]string{"False": "bool", "True": "bool", "Div": "exn", "Match": "exn", "Abort": "exn", "Keep": "exn", "Out": "exn"} {
		m.cons[s] = mcon{data: data}
	}
	m.cons["Fail"] = mcon{data: "exn", types: []parse.Node{parseType("string")}}
	for _, a := range allAhead() {
		m.env = append(m.env, scheme{a.name, said(parseType(a.text), map[string]*cell{"'a": {level: everyLevel}})})
	}
	for _, n := range l {
		m.top(n)
	}
	for _, s := range m.out {
		if s.of.big() {
			return nil, api.Pos{}, api.ErrBig
		}
		out = append(out, Binding{s.name, s.of.show(map[*cell]string{})})
	}
	return out, api.Pos{}, api.OK
}

// maker makes pieces of programs; most of them are small, so that the types of many fit.
type maker struct {
	*rand.Rand
}

func (g maker) pick(l ...string) string { return l[g.Intn(len(l))] }

func (g maker) name() string { return g.pick("x", "y", "z", "f", "g", "h") }

func (g maker) list(l ...string) string { return "(" + strings.Join(l, " ") + ")" }

func (g maker) fn(deep int) string {
	params := []string{g.pick("x", "y", "z", "f", "_")}
	for g.Intn(3) == 0 && len(params) < 8 {
		params = append(params, g.name())
	}
	return g.list("fn", g.list(params...), g.expr(deep-1))
}

func (g maker) leaf() string {
	return g.pick(g.name(), g.name(), g.name(), "1", "1.5", `"a"`, "()", "Nil", "True", "Div", "ref", "get", "set", "new", "load", "store", "+", "=", "cat", "None", "itoa", "print", "nan", "foo", "Foo", "Cons")
}

func (g maker) pattern(deep int) string {
	if deep <= 0 || g.Intn(3) == 0 {
		return g.pick("_", "_", "x", "y", "h", "1", `"a"`, "()", "Nil", "True", "Div", "None", "Cons")
	}
	sub := func() string { return g.pattern(deep - 1) }
	switch g.Intn(5) {
	case 0:
		return g.list("tuple", sub(), sub())
	case 1:
		return g.list("Cons", sub(), sub())
	case 2:
		return g.list("Some", sub())
	case 3:
		return g.list("Both", sub(), sub())
	}
	return g.pick("Nil", "(Fail x)", "(Tree x y)", "_", "x")
}

func (g maker) expr(deep int) string {
	if deep <= 0 {
		return g.leaf()
	}
	sub := func() string { return g.expr(deep - 1) }
	switch g.Intn(22) {
	case 0, 1, 2:
		return g.fn(deep)
	case 3, 4, 5:
		return g.list(sub(), sub())
	case 6:
		return g.list(g.pick("+", "cat", "set", "store", "f", "g", "h", "="), sub(), sub())
	case 7, 8:
		return g.list(g.pick("ref", "get", "new", "load", "f", "g", "h", "itoa"), sub())
	case 9, 10, 11:
		return g.list("let", g.pick("x", "y", "f", "g", "_"), sub(), sub())
	case 12:
		return g.list("rec", g.name(), g.fn(deep-1), sub())
	case 13:
		return g.list("if", g.pick("True", "x", "(= 1 y)", sub()), sub(), sub())
	case 14:
		return g.list("seq", sub(), sub())
	case 15, 16:
		return g.list("tuple", sub(), sub())
	case 17:
		return g.list("Cons", sub(), g.pick("Nil", "Nil", "x", sub()))
	case 18:
		l := []string{g.pick("case", "case", "case", "try"), sub()}
		for range 1 + g.Intn(2) {
			l = append(l, g.list(g.pattern(2), sub()))
		}
		return g.list(l...)
	case 19:
		return g.pick("(raise Div)", "(raise x)", g.list("raise", sub()))
	case 20:
		return g.list(g.pick("Some", "transact", "Fail", "(Both 1)"), sub())
	}
	return g.list("Both", sub(), sub())
}

func (g maker) typ(deep int) string {
	sub := func() string { return g.typ(deep - 1) }
	switch k := g.Intn(12); {
	case k < 5 || deep <= 0:
		return g.pick("int", "string", "unit", "bool", "exn", "float", "'a", "'b", "t", "list", "u")
	case k < 7:
		return g.list(g.pick("list", "opt", "ref", "pref", "list", "int"), sub())
	case k < 9:
		return g.list(g.pick("->", "tuple", "both"), sub(), sub())
	case k == 9:
		return g.list("->", sub(), sub(), sub())
	}
	return g.pick("int", "(list int)", "(tree 'a 'b)", "(tree int)")
}

func (g maker) top() string {
	switch k := g.Intn(20); {
	case k < 11:
		return g.list("def", g.name(), g.expr(1+g.Intn(4)))
	case k < 14:
		return g.list("rec", g.name(), g.fn(1+g.Intn(4)))
	case k < 16:
		return g.list("do", g.expr(1+g.Intn(4)))
	case k < 18:
		return g.list("root", g.pick("x", "y", "r", "s", "q"), g.typ(2), g.expr(1+g.Intn(2)))
	}
	l := []string{"data", g.pick("t", "u", "v", "tree", "int"), g.pick("()", "('a)", "('a 'b)", "('b 'b)")}
	for range 1 + g.Intn(3) {
		c := []string{g.pick("A", "B", "C", "D", "E", "Nil", "Tree", "Foo")}
		for range g.Intn(3) {
			c = append(c, g.typ(2))
		}
		l = append(l, g.list(c...))
	}
	return g.list(l...)
}

const datas = "(data list ('a) (Nil) (Cons 'a (list 'a)))\n(data opt ('b) (None) (Some 'b))\n(data both ('a 'b) (Both 'b 'a))\n"

// check holds Program against the model.
func check(t *testing.T, src string) (api.Errno, bool) {
	t.Helper()
	l, _, err := parse.Program(src)
	if err != api.OK {
		// A pattern has a variable twice.
		return 0, false
	}
	got, at, err := Program(l...)
	want, wantAt, wantErr := programModel(l)
	if !slices.Equal(got, want) || at != wantAt || err != wantErr {
		t.Fatalf("%s\n%v, %v, %v, not\n%v, %v, %v", src, got, at, err, want, wantAt, wantErr)
	}
	return err, true
}

// TestAgainstModel makes programs longer and longer: pieces that don't fit are mostly left out again.
func TestAgainstModel(t *testing.T) {
	fit, not := 0, 0
	for seed := range 600 {
		g := maker{rand.New(rand.NewSource(int64(seed)))}
		src := datas
		for range 1 + g.Intn(30) {
			piece := g.top() + "\n"
			err, ok := check(t, src+piece)
			if err == api.OK && ok {
				src += piece
				fit++
			} else if ok {
				not++
			}
		}
	}
	t.Log(fit, not)
	if fit < 1000 || not < 1000 {
		t.Error(fit, not)
	}
}
