package match

import "strconv"

// What parts of an answer take, in bytes; beyond mostBytes nothing is promised
// of one: there are a few patterns whose least tree nobody could hold.
const (
	mostBytes = 1<<31 - 1
	treeBytes = 88
	patBytes  = 56
	intBytes  = 8
)

// plan is a question or an answer, as a tree's; but one plan may stand at many
// places of a tree.
type plan struct {
	num   int // the row of an answer; the place of a question
	tests []head
	kids  []*plan // none: it is an answer
	bytes int     // of the tree
}

// part is a place: which one of the parts of what stands at the outer place.
type part struct {
	outer, index int
}

// planner makes plans. Of rows that ask for the same places it makes one, however
// a value comes to them: so what is too big is known without going through it.
type planner struct {
	places  []part // by their numbers; number 0 is the value itself
	numbers map[part]int
	known   map[string]*plan
	// left is how many bytes there may be still in questions that are unlike.
	left int
}

func newPlanner() *planner {
	return &planner{places: []part{{}}, numbers: map[part]int{}, known: map[string]*plan{}, left: mostBytes}
}

func (p *planner) isTooBig() bool { return p.left < 0 }

// rows are those of patterns to which a value can come.
func (p *planner) rows(l []Pat) []row {
	var rows []row
	for i, x := range l {
		rows = add(rows, row{i, p.needs(nil, x, 0)})
	}
	return rows
}

// needs puts what a pattern asks of a place behind others; it may be nothing.
func (p *planner) needs(l []need, x Pat, place int) []need {
	if x.Op == Any || x.Op == Var {
		return l
	}
	n := need{place: place, head: headOf(x)}
	for i, k := range parts(x) {
		n.parts = p.needs(n.parts, k, p.number(part{place, i}))
	}
	return append(l, n)
}

// number is a place's.
func (p *planner) number(x part) int {
	n, ok := p.numbers[x]
	if !ok {
		n = len(p.places)
		p.places = append(p.places, x)
		p.numbers[x] = n
	}
	return n
}

// path is the way to a place from the value on.
func (p *planner) path(place int) []int {
	if place == 0 {
		return nil
	}
	x := p.places[place]
	return append(p.path(x.outer), x.index)
}

// plan is that of rows; of no use, if it is too big.
func (p *planner) plan(rows []row) *plan {
	switch {
	case len(rows) == 0:
		return &plan{num: -1, bytes: treeBytes}
	case rows[0].takesAll():
		return &plan{num: rows[0].num, bytes: treeBytes}
	}
	key := keyOf(rows)
	made, ok := p.known[key]
	if !ok {
		made = p.question(rows)
		p.known[key] = made
	}
	return made
}

func (p *planner) question(rows []row) *plan {
	place := bestPlace(rows)
	tests, branches := split(rows, place)
	q := &plan{num: place, tests: tests, bytes: treeBytes + intBytes*len(p.path(place))}
	for _, h := range tests {
		q.bytes += patBytes * (1 + h.kids)
	}
	p.left -= q.bytes
	for _, b := range branches {
		if p.isTooBig() {
			return q
		}
		k := p.plan(b)
		q.kids = append(q.kids, k)
		q.bytes += k.bytes
		if q.bytes > mostBytes {
			p.left = -1
		}
	}
	return q
}

// keyOf tells rows by what they ask for still; the places tell the rest.
func keyOf(rows []row) string {
	var b []byte
	for _, r := range rows {
		b = strconv.AppendInt(b, int64(r.num), 36)
		for _, n := range r.open {
			b = append(b, ' ')
			b = strconv.AppendInt(b, int64(n.place), 36)
		}
		b = append(b, '\n')
	}
	return string(b)
}

// grow is a plan's tree, all of it new.
func (p *planner) grow(x *plan) Tree {
	if len(x.kids) == 0 {
		return Tree{Leaf: true, Num: x.num}
	}
	t := Tree{Path: p.path(x.num)}
	t.Tests = make([]Pat, len(x.tests))
	for i, h := range x.tests {
		t.Tests[i] = h.test()
	}
	t.Kids = make([]Tree, len(x.kids))
	for i, k := range x.kids {
		t.Kids[i] = p.grow(k)
	}
	return t
}
