package match

// head is what a question asks of a place, whatever the parts are.
type head struct {
	op, num int
	text    string
	kids    int
}

// headOf leaves out what plays no part.
func headOf(p Pat) head {
	h := head{op: p.Op, kids: len(parts(p))}
	switch p.Op {
	case Int, Con:
		h.num = p.Num
	case Str:
		h.text = p.Text
	}
	return h
}

// test is the pattern that asks for it.
func (h head) test() Pat {
	p := Pat{Op: h.op, Num: h.num, Text: h.text}
	if h.kids > 0 {
		p.Kids = make([]Pat, h.kids)
	}
	return p
}

// need is what a row asks of a place: a head, and what it asks of the parts then.
type need struct {
	place int
	head  head
	parts []need
}

// row is one that a value may match still.
type row struct {
	num int
	// open is what it asks of places that are there and weren't asked yet, in
	// the order in which they stand.
	open []need
}

// takesAll: does every value match it that comes so far?
func (r row) takesAll() bool { return len(r.open) == 0 }

// find is where a place stands among what is open; -1: nothing is asked of it.
func (r row) find(place int) int {
	for i, n := range r.open {
		if n.place == place {
			return i
		}
	}
	return -1
}

// behind is the row when what stands there was asked for, and was so.
func (r row) behind(i int) row {
	var open []need
	open = append(open, r.open[:i]...)
	open = append(open, r.open[i].parts...)
	open = append(open, r.open[i+1:]...)
	return row{r.num, open}
}

// add puts a row behind others, if a value can come to it.
func add(l []row, r row) []row {
	if len(l) > 0 && l[len(l)-1].takesAll() {
		return l
	}
	return append(l, r)
}

// bestPlace is that which most rows ask for among those that the first one does:
// rows that don't ask for it come again behind each of its tests.
func bestPlace(rows []row) int {
	best, most := 0, 0
	for _, n := range rows[0].open {
		count := 0
		for _, r := range rows {
			if r.find(n.place) >= 0 {
				count++
			}
		}
		if count > most {
			best, most = n.place, count
		}
	}
	return best
}

// split is what is asked of a place, and which rows go on behind each test, and behind none.
func split(rows []row, place int) ([]head, [][]row) {
	var tests []head
	known := map[head]int{}
	for _, r := range rows {
		i := r.find(place)
		if i < 0 {
			continue
		}
		h := r.open[i].head
		if _, ok := known[h]; !ok {
			known[h] = len(tests)
			tests = append(tests, h)
		}
	}
	branches := make([][]row, len(tests)+1)
	for _, r := range rows {
		if i := r.find(place); i >= 0 {
			b := known[r.open[i].head]
			branches[b] = add(branches[b], r.behind(i))
			continue
		}
		for b := range branches {
			branches[b] = add(branches[b], r)
		}
	}
	return tests, branches
}
