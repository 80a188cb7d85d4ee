package parse

import (
	"math/rand"
	"slices"
	"strings"
	"testing"

	"scriptor/api"
	"scriptor/lex"
)

// The model is a second way of reckoning: the chapter's tables as a table. Of
// a text it finds all trees that are wrong, and picks the first one then.

// form is a row: of what it is one (e, p, t, or P of a program), the word it
// begins with, what comes behind that, and the node.
type form struct {
	of, word, parts string
	op              int
}

// In parts stand: e, p, t for an expression, a pattern, a type; a an arm; d a
// constructor with its types; f an expression that is a fn; x a variable; X
// one or _; n a type's name; [ a list of X; { a list of variables of types;
// and behind the last part + for one or more, 2 for 2 to 8, 1 for 1 to 8.
var forms = []form{
	{"e", "fn", "[e", Fn}, {"e", "let", "Xee", Let}, {"e", "rec", "xfe", Rec}, {"e", "if", "eee", If},
	{"e", "seq", "e+", Seq}, {"e", "tuple", "e2", Tup}, {"e", "case", "ea+", Case}, {"e", "try", "ea+", Try},
	{"e", "raise", "e", Raise}, {"e", "transact", "e", Trans}, {"p", "tuple", "p2", PTup},
	{"t", "->", "tt+", TName}, {"t", "tuple", "t2", TName}, {"t", "ref", "t", TName}, {"t", "pref", "t", TName},
	{"P", "data", "n{d+", Data}, {"P", "root", "xte", Root}, {"P", "def", "xe", Def}, {"P", "rec", "xf", DefRec}, {"P", "do", "e", Do},
}

const keptWords = " fn let rec if seq tuple case try raise transact data root def do "

// sexp is a tree: the first of its tokens by number, and what is in it.
type sexp struct {
	tok   lex.Token
	first int
	in    []*sexp
}

func (s *sexp) open() bool { return s.tok.Kind == lex.Open }
func (s *sexp) name() bool { return s.tok.Kind == lex.Name }
func (s *sexp) con() bool  { return s.tok.Kind == lex.Con }

func (s *sexp) variable() bool {
	w := s.tok.Text
	return s.name() && !strings.Contains(keptWords, " "+w+" ") && w != "_" && w[0] != '\''
}

func (s *sexp) orAny() bool { return s.variable() || s.name() && s.tok.Text == "_" }

func (s *sexp) typeVar() bool { return s.name() && s.tok.Text[0] == '\'' && s.tok.Text != "'" }

func (s *sexp) typeName() bool {
	return s.variable() && !strings.Contains(" -> ref pref ", " "+s.tok.Text+" ")
}

func (s *sexp) fn() bool {
	return s.open() && len(s.in) > 0 && s.in[0].name() && s.in[0].tok.Text == "fn"
}

func all(l []*sexp, ok func(*sexp) bool) bool {
	return !slices.ContainsFunc(l, func(s *sexp) bool { return !ok(s) })
}

// model is Program, of a text of tokens.
type model struct {
	// wrong are the trees that are, by the numbers of their first tokens.
	wrong []int
}

// bracketsModel is the number of the token that is wrong of all brackets, or -1.
func bracketsModel(l []lex.Token) int {
	depth := make([]int, len(l)+1)
	for i, t := range l {
		depth[i+1] = depth[i]
		switch t.Kind {
		case lex.Open:
			depth[i+1]++
		case lex.Close:
			depth[i+1]--
		}
		if depth[i+1] < 0 || depth[i+1] > 200 {
			return i
		}
	}
	for i, t := range l {
		if t.Kind == lex.Open && slices.Min(depth[i+1:]) > depth[i] {
			return i
		}
	}
	return -1
}

func sexps(l []lex.Token) []*sexp {
	open := []*sexp{{}}
	for i, t := range l {
		if t.Kind == lex.Close {
			open = open[:len(open)-1]
			continue
		}
		s := &sexp{tok: t, first: i}
		last := open[len(open)-1]
		last.in = append(last.in, s)
		if s.open() {
			open = append(open, s)
		}
	}
	return open[0].in
}

func programModel(src string) ([]Node, api.Pos, api.Errno) {
	l, at, err := lex.Scan(src)
	if err != api.OK {
		return nil, at, err
	}
	if i := bracketsModel(l); i >= 0 {
		return nil, l[i].At, api.ErrSyntax
	}
	var m model
	var out []Node
	for _, s := range sexps(l) {
		out = append(out, m.say(s, "P"))
	}
	if len(m.wrong) > 0 {
		return nil, l[slices.Min(m.wrong)].At, api.ErrSyntax
	}
	return out, api.Pos{}, api.OK
}

// say is what a tree says as one of e, p, t, a, d or P.
func (m *model) say(s *sexp, of string) Node {
	n := Node{At: s.tok.At}
	ok := false
	switch {
	case of == "a":
		ok = s.open() && len(s.in) == 2
		if ok {
			n.Op = Arm
			before := len(m.wrong)
			p := m.say(s.in[0], "p")
			if names := variables(p); len(m.wrong) == before && len(slices.Compact(names)) < len(variables(p)) {
				m.wrong = append(m.wrong, s.in[0].first)
			}
			n.Kids = []Node{p, m.say(s.in[1], "e")}
		}
	case of == "d":
		ok = s.open() && len(s.in) > 0 && s.in[0].con() && len(s.in) <= 9
		if ok {
			n.Op, n.Text = DCon, s.in[0].tok.Text
			m.row(&n, s.in[1:], "t", len(s.in)-1)
		}
	case !s.open():
		ok = m.token(&n, s, of)
	case len(s.in) == 0:
		n.Op = map[string]int{"e": Unit, "p": PUnit}[of]
		ok = n.Op != 0
	default:
		ok = m.bracket(&n, s, of)
	}
	if !ok {
		m.wrong = append(m.wrong, s.first)
	}
	return n
}

// variables are those of a pattern, sorted.
func variables(p Node) []string {
	if p.Op == PVar {
		return []string{p.Text}
	}
	var l []string
	for _, k := range p.Kids {
		l = append(l, variables(k)...)
	}
	slices.Sort(l)
	return l
}

func (m *model) token(n *Node, s *sexp, of string) bool {
	ops := map[string][]int{"e": {Int, Float, Str, Var, Con}, "p": {PInt, 0, PStr, PVar, PCon}, "t": {0, 0, 0, TName, 0}, "P": {0, 0, 0, 0, 0}}[of]
	n.Num, n.Text = s.tok.Num, s.tok.Text
	switch {
	case s.name() && s.tok.Text == "_" && of == "p":
		n.Op, n.Text = PAny, ""
		return true
	case s.typeVar() && of == "t":
		n.Op = TVar
		return true
	case s.name() && (!s.variable() || of == "t" && !s.typeName()):
		return false
	}
	n.Op = ops[slices.Index([]int{lex.Int, lex.Float, lex.Str, lex.Name, lex.Con}, s.tok.Kind)]
	return n.Op != 0
}

// row adds what the trees say.
func (m *model) row(n *Node, l []*sexp, parts string, count int) {
	for i := range count {
		n.Kids = append(n.Kids, m.say(l[i], string(parts[min(i, len(parts)-1)])))
	}
}

func (m *model) bracket(n *Node, s *sexp, of string) bool {
	head, behind := s.in[0], s.in[1:]
	some := len(behind) >= 1 && len(behind) <= 8
	if head.con() && (of == "e" || of == "p") && some {
		n.Op, n.Text = map[string]int{"e": Con, "p": PCon}[of], head.tok.Text
		m.row(n, behind, of, len(behind))
		return true
	}
	for _, f := range forms {
		if f.of == of && head.name() && f.word == head.tok.Text {
			n.Op = f.op
			return m.form(n, behind, f.parts, head)
		}
	}
	if of == "e" && some && !head.con() && !(head.name() && strings.Contains(keptWords, " "+head.tok.Text+" ")) {
		n.Op = App
		m.row(n, s.in, "e", len(s.in))
		return true
	}
	if of == "t" && some && head.typeName() {
		n.Op, n.Text = TName, head.tok.Text
		m.row(n, behind, "t", len(behind))
		return true
	}
	return false
}

// form is a bracket with these parts behind its word.
func (m *model) form(n *Node, l []*sexp, parts string, head *sexp) bool {
	least, most := len(parts), len(parts)
	if c := parts[len(parts)-1]; c == '+' || c == '2' {
		parts = parts[:len(parts)-1]
		least, most = len(parts), 1<<20
		if c == '2' {
			least, most = 2, 8
		}
	}
	if len(l) < least || len(l) > most {
		return false
	}
	sub := map[byte]string{'e': "e", 'p': "p", 't': "t", 'a': "a", 'd': "d", 'f': "e"}
	var said []string
	var trees []*sexp
	for i, s := range l {
		c := parts[min(i, len(parts)-1)]
		ok := true
		switch c {
		case 'x':
			ok = s.variable()
		case 'X':
			ok = s.orAny()
		case 'n':
			ok = s.typeName()
		case 'f':
			ok = s.fn()
		case '[':
			ok = s.open() && len(s.in) >= 1 && len(s.in) <= 8 && all(s.in, (*sexp).orAny)
		case '{':
			ok = s.open() && len(s.in) <= 8 && all(s.in, (*sexp).typeVar)
		}
		if !ok {
			return false
		}
		switch c {
		case 'x', 'X', 'n':
			n.Text = s.tok.Text
		case '[', '{':
			for _, v := range s.in {
				trees, said = append(trees, v), append(said, map[byte]string{'[': "p", '{': "t"}[c])
			}
		default:
			trees, said = append(trees, s), append(said, sub[c])
		}
	}
	for i, s := range trees {
		n.Kids = append(n.Kids, m.say(s, said[i]))
	}
	if n.Op == TName {
		n.Text = head.tok.Text
	}
	if n.Op == TName && n.Text == "->" {
		*n = chain(*n)
	}
	return true
}

// chain is an arrow of two, of one of many.
func chain(n Node) Node {
	if len(n.Kids) == 2 {
		return n
	}
	rest := n
	rest.Kids = n.Kids[1:]
	return Node{Op: n.Op, At: n.At, Text: n.Text, Kids: []Node{n.Kids[0], chain(rest)}}
}

// same: are the nodes the same, where places count or not?
func same(a, b []Node, places bool) bool {
	return slices.EqualFunc(a, b, func(x, y Node) bool {
		return x.Op == y.Op && x.Text == y.Text && x.Num == y.Num && (!places || x.At == y.At) && same(x.Kids, y.Kids, places)
	})
}

func check(t *testing.T, src string) api.Errno {
	t.Helper()
	got, at, err := Program(src)
	want, wantAt, wantErr := programModel(src)
	if at != wantAt || err != wantErr || !same(got, want, true) {
		t.Fatalf("Program(%q) = %v, %v, %v, not %v, %v, %v", src, got, at, err, want, wantAt, wantErr)
	}
	if err != api.OK {
		return err
	}
	shown := Show(got...)
	again, at, err := Program(shown)
	if err != api.OK || !same(got, again, false) || Show(again...) != shown {
		t.Fatalf("%q is shown as %q: %v, %v", src, shown, at, err)
	}
	return err
}

// maker makes texts of programs; wrongs of a hundred of its trees are wrong.
type maker struct {
	*rand.Rand
	wrongs int
	// plain texts are as Show writes them.
	plain bool
}

func (g *maker) pick(l ...string) string { return l[g.Intn(len(l))] }

func (g *maker) blank() string {
	if g.plain {
		return " "
	}
	return g.pick(" ", " ", " ", " ", "\n", "\t ", " ; )(\n")
}

// list is a bracket.
func (g *maker) list(l ...string) string {
	var b strings.Builder
	b.WriteString("(")
	for i, s := range l {
		if i > 0 {
			b.WriteString(g.blank())
		}
		b.WriteString(s)
	}
	return b.String() + ")"
}

// some is a bracket of a beginning, and of so many others; perhaps of others.
func (g *maker) some(begin []string, least, most int, one func() string) string {
	if g.Intn(100) < g.wrongs {
		least, most = max(0, least-1), most+1
	}
	l := slices.Clone(begin)
	for range least + g.Intn(min(most, least+2)-least+1) {
		l = append(l, one())
	}
	return g.list(l...)
}

func (g *maker) junk() string {
	return g.pick("fn", "let", "do", "data", "_", "'a", "'", "1.5", "x", "C", "7", `"s"`, "()", "(x)", "(C)", "(_ 1)", "(fn)", "(rec f (fn (x) x))",
		"->", "ref", "(ref int)", "(tuple x)", "(tuple x y)", "(fn (x) x)", "(fn () x)", "(do 1)", "(-> int)", "(1 2)", "(C 1 2)", "(())")
}

func (g *maker) variable() string {
	if g.Intn(200) < g.wrongs {
		return g.junk()
	}
	return g.pick("x", "y", "z", "f", "+", "->", "ref", "pref", "int", "-", "a.b", "x'", "-1x", "?", "=")
}

func (g *maker) orAny() string { return g.pick("_", g.variable(), g.variable()) }

func (g *maker) typeVar() string {
	if g.Intn(200) < g.wrongs {
		return g.junk()
	}
	return g.pick("'a", "'b", "'list", "'1", "''")
}

func (g *maker) typeName() string {
	if g.Intn(200) < g.wrongs {
		return g.junk()
	}
	return g.pick("int", "list", "string", "t", "->>", "ref'", "+")
}

func (g *maker) literal() string {
	return g.pick("0", "1", "-17", "4611686018427387903", `""`, `"a ( ; b"`, `"\"\\\n\x00\x1f~\x7f\xff"`, "()")
}

func (g *maker) expr(deep int) string {
	sub := func() string { return g.expr(deep - 1) }
	arm := func() string { return g.list(g.pattern(deep-1), sub()) }
	if g.Intn(100) < g.wrongs {
		arm = g.junk
	}
	switch k := g.Intn(18); {
	case g.Intn(100) < g.wrongs:
		return g.junk()
	case deep <= 0 || k < 3:
		return g.pick(g.variable(), "Nil", g.literal(), g.pick("1.5", "-0.0", "0.1", "12345678901234.5", "-99.999"))
	case k < 5:
		return g.fn(deep)
	case k == 5:
		return g.list("let", g.orAny(), sub(), sub())
	case k == 6:
		return g.list("rec", g.variable(), g.fn(deep-1), sub())
	case k == 7:
		return g.list("if", sub(), sub(), sub())
	case k == 8:
		return g.some([]string{"seq"}, 1, 20, sub)
	case k == 9:
		return g.some([]string{"tuple"}, 2, 8, sub)
	case k == 10:
		return g.some([]string{"case", sub()}, 1, 20, arm)
	case k == 11:
		return g.some([]string{"try", sub()}, 1, 20, arm)
	case k == 12:
		return g.list(g.pick("raise", "transact"), sub())
	case k < 15:
		return g.some([]string{g.pick("Cons", "A1")}, 1, 8, sub)
	}
	return g.some([]string{g.pick(g.variable(), g.list("f", "x"), "1")}, 1, 8, sub)
}

func (g *maker) fn(deep int) string {
	if g.Intn(100) < g.wrongs {
		return g.expr(deep)
	}
	return g.list("fn", g.some(nil, 1, 8, g.orAny), g.expr(deep-1))
}

func (g *maker) pattern(deep int) string {
	sub := func() string { return g.pattern(deep - 1) }
	switch k := g.Intn(8); {
	case g.Intn(100) < g.wrongs:
		return g.junk()
	case deep <= 0 || k < 4:
		return g.pick("_", "Nil", "v"+g.pick("1", "2", "3")+g.pick("a", "b", "c", "d", "e", "f"), g.literal())
	case k < 6:
		return g.some([]string{"tuple"}, 2, 8, sub)
	}
	return g.some([]string{"Cons"}, 1, 8, sub)
}

func (g *maker) typ(deep int) string {
	sub := func() string { return g.typ(deep - 1) }
	switch k := g.Intn(9); {
	case g.Intn(100) < g.wrongs:
		return g.junk()
	case deep <= 0 || k < 3:
		return g.pick(g.typeVar(), g.typeName(), g.typeName())
	case k < 5 && g.plain:
		return g.list("->", sub(), sub())
	case k < 5:
		return g.some([]string{"->"}, 2, 20, sub)
	case k == 5:
		return g.some([]string{"tuple"}, 2, 8, sub)
	case k == 6:
		return g.list(g.pick("ref", "pref"), sub())
	}
	return g.some([]string{g.typeName()}, 1, 8, sub)
}

func (g *maker) top() string {
	expr := func() string { return g.expr(4) }
	con := func() string {
		return g.some([]string{g.pick("A", "B", "Cons")}, 0, 8, func() string { return g.typ(3) })
	}
	switch k := g.Intn(6); {
	case g.Intn(200) < g.wrongs:
		return g.junk()
	case k == 0:
		return g.some([]string{"data", g.typeName(), g.some(nil, 0, 8, g.typeVar)}, 1, 20, con)
	case k == 1:
		return g.list("root", g.variable(), g.typ(3), expr())
	case k == 2:
		return g.list("rec", g.variable(), g.fn(4))
	case k == 3:
		return g.list("def", g.variable(), expr())
	}
	return g.list("do", expr())
}

func (g *maker) program(most int) string {
	var b strings.Builder
	for range g.Intn(most + 1) {
		b.WriteString(g.top())
		if g.plain {
			b.WriteString("\n")
		} else if g.Intn(2) == 0 {
			b.WriteString(g.blank())
		}
	}
	return b.String()
}

func TestRandomPrograms(t *testing.T) {
	count := map[api.Errno]int{}
	for seed, wrongs := range []int{0, 1, 3, 10} {
		g := &maker{Rand: newRand(int64(seed)), wrongs: wrongs}
		for range 4000 {
			count[check(t, g.program(4))]++
		}
	}
	if count[api.OK] < 3000 || count[api.ErrSyntax] < 3000 {
		t.Error(count)
	}
}

// TestChangedPrograms changes tokens of right ones.
func TestChangedPrograms(t *testing.T) {
	g := &maker{Rand: newRand(9), plain: true}
	words := []string{"(", ")", "fn", "tuple", "case", "_", "x", "C", "1", "1.5", "'a", "->", "()"}
	count := map[api.Errno]int{}
	for range 10000 {
		l := strings.Split(strings.NewReplacer("(", " ( ", ")", " ) ").Replace(g.program(2)), " ")
		for range 1 + g.Intn(2) {
			i := g.Intn(len(l))
			switch g.Intn(3) {
			case 0:
				l = slices.Delete(l, i, i+1)
			case 1:
				l = slices.Insert(l, i, words[g.Intn(len(words))])
			default:
				l[i] = words[g.Intn(len(words))]
			}
			l = append(l, "")
		}
		count[check(t, strings.Join(l, " "))]++
	}
	if count[api.OK] < 300 || count[api.ErrSyntax] < 3000 {
		t.Error(count)
	}
}

// TestPlainPrograms: a text that is as Show writes it is shown so.
func TestPlainPrograms(t *testing.T) {
	g := &maker{Rand: newRand(7), plain: true}
	count := 0
	for range 4000 {
		src := g.program(4)
		l, _, err := Program(src)
		if err != api.OK {
			continue
		}
		count++
		if got := Show(l...); got != src {
			t.Fatalf("%q is shown as %q", src, got)
		}
	}
	if count < 2000 {
		t.Error(count)
	}
}

func newRand(seed int64) *rand.Rand { return rand.New(rand.NewSource(seed)) }
