package parse

import (
	"strconv"
	"strings"

	"scriptor/api"
	"scriptor/num"
)

// Show: nodes, as a text.
func Show(l ...Node) string {
	nested := write(l, false)
	if nested.fits() {
		return nested.out.String()
	}
	// Arrows in a row need fewer brackets in one, and may be read again so.
	if flat := write(l, true); flat.fits() {
		return flat.out.String()
	}
	return nested.out.String()
}

// pen writes nodes as trees.
type pen struct {
	out strings.Builder
	// flat: are arrows in a row written in one bracket?
	flat bool
	// begun: does a tree stand ahead, in this bracket?
	begun bool
	// deep is how many brackets are open; deepest, how many were.
	deep, deepest int
	// left is how many nodes may still be written.
	left int
}

func write(l []Node, flat bool) *pen {
	p := &pen{flat: flat}
	for _, n := range l {
		// No tree of a program has more nodes than a text has bytes: what has
		// more is free, and may have no end.
		p.left = api.MaxText
		p.node(n)
		p.out.WriteByte('\n')
		p.begun = false
	}
	return p
}

// fits: has it no more than a program may have?
func (p *pen) fits() bool {
	return p.out.Len() <= api.MaxText && p.deepest <= api.MaxDepth
}

func (p *pen) word(s string) {
	if p.begun {
		p.out.WriteByte(' ')
	}
	p.out.WriteString(s)
	p.begun = true
}

func (p *pen) open() {
	p.word("(")
	p.begun = false
	p.deep++
	p.deepest = max(p.deepest, p.deep)
}

func (p *pen) close() {
	p.out.WriteByte(')')
	p.begun = true
	p.deep--
}

// bracket is one of words, and of nodes behind them.
func (p *pen) bracket(kids []Node, words ...string) {
	p.open()
	for _, w := range words {
		p.word(w)
	}
	p.nodes(kids)
	p.close()
}

func (p *pen) nodes(l []Node) {
	for i := 0; i < len(l) && p.left > 0; i++ {
		p.node(l[i])
	}
}

func (p *pen) node(n Node) {
	p.left--
	switch n.Op {
	case Unit, PUnit:
		p.bracket(nil)
	case Con, PCon, TName:
		p.named(n)
	case Fn:
		p.open()
		p.word("fn")
		last := max(0, len(n.Kids)-1)
		p.bracket(n.Kids[:last])
		p.nodes(n.Kids[last:])
		p.close()
	case Data:
		p.open()
		p.word("data")
		p.word(n.Text)
		vars := countVars(n.Kids)
		p.bracket(n.Kids[:vars])
		p.nodes(n.Kids[vars:])
		p.close()
	case DCon:
		p.bracket(n.Kids, n.Text)
	case Let, Rec, Root, Def, DefRec:
		p.bracket(n.Kids, keyword(n.Op), n.Text)
	case If, Seq, Tup, PTup, Case, Try, Raise, Trans, Do:
		p.bracket(n.Kids, keyword(n.Op))
	case App, Arm:
		p.bracket(n.Kids)
	default:
		p.word(atomText(n))
	}
}

// named is what a constructor or a type's name makes of parts, or of none.
func (p *pen) named(n Node) {
	if len(n.Kids) == 0 {
		p.word(n.Text)
		return
	}
	p.open()
	p.word(n.Text)
	for p.flat && p.left > 0 && isArrow(n) && isArrow(n.Kids[1]) {
		p.node(n.Kids[0])
		n = n.Kids[1]
	}
	p.nodes(n.Kids)
	p.close()
}

func isArrow(n Node) bool {
	return n.Op == TName && n.Text == "->" && len(n.Kids) == 2
}

// countVars is how many variables of types stand ahead.
func countVars(l []Node) int {
	n := 0
	for n < len(l) && l[n].Op == TVar {
		n++
	}
	return n
}

// keyword is what a bracket of such a node begins with.
func keyword(op int) string {
	switch op {
	case Let:
		return "let"
	case Rec, DefRec:
		return "rec"
	case If:
		return "if"
	case Seq:
		return "seq"
	case Tup, PTup:
		return "tuple"
	case Case:
		return "case"
	case Try:
		return "try"
	case Raise:
		return "raise"
	case Trans:
		return "transact"
	case Root:
		return "root"
	case Def:
		return "def"
	}
	return "do"
}

// atomText is the token of a node without parts.
func atomText(n Node) string {
	switch n.Op {
	case Int, PInt:
		return num.Text(n.Num)
	case Float:
		return floatText(n.Text)
	case Str, PStr:
		return strText(n.Text)
	case PAny:
		return "_"
	}
	return n.Text
}

// floatText has the fewest digits that are read as these bits: never more
// than were there, when they were read from a text.
func floatText(bits string) string {
	var x num.Float
	for i := range len(bits) {
		x = x<<8 | num.Float(bits[i])
	}
	s := strconv.FormatFloat(x.Go(), 'f', -1, 64)
	if strings.Contains(s, ".") {
		return s
	}
	return s + ".0"
}

func strText(s string) string {
	const digits = "0123456789abcdef"
	b := []byte{'"'}
	for i := range len(s) {
		switch c := s[i]; {
		case c == '"' || c == '\\':
			b = append(b, '\\', c)
		case c == '\n':
			b = append(b, '\\', 'n')
		case c < ' ' || c > '~':
			b = append(b, '\\', 'x', digits[c>>4], digits[c&15])
		default:
			b = append(b, c)
		}
	}
	return string(append(b, '"'))
}
