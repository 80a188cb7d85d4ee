package code

import (
	"math/rand"
	"testing"

	"scriptor/api"
)

// writer makes code that is in order, by chance.
type writer struct {
	*rand.Rand
	code   Code
	closed []int // of each function, how many values are closed in
	fun    int
	deep   int
}

func newWriter(seed int) *writer { return &writer{Rand: rand.New(rand.NewSource(int64(seed)))} }

func (w *writer) put(op, a, b int) int {
	w.code.Ins = append(w.code.Ins, Ins{op, a, b})
	return len(w.code.Ins) - 1
}

func (w *writer) here() int { return len(w.code.Ins) }

// program has some functions, each of an expression.
func (w *writer) program() Code {
	w.code = Code{Strs: strs(), Globals: w.Intn(3)}
	w.closed = []int{0}
	for range w.Intn(4) {
		w.closed = append(w.closed, w.Intn(3))
	}
	for w.fun = range w.closed {
		w.code.Funs = append(w.code.Funs, w.here())
		if w.fun > 0 {
			w.expr(1)
			w.put(Ret, 0, 0)
			continue
		}
		for range w.Intn(4) {
			w.expr(0)
			w.put(Pop, 0, 0)
		}
		w.put(Halt, 0, 0)
	}
	// Nobody comes to these; but so each function has what is closed in.
	for f := 1; f < len(w.closed); f++ {
		w.put(Close, f, w.closed[f])
	}
	return w.code
}

// expr is put one more value on top of so many.
func (w *writer) expr(h int) {
	w.deep++
	defer func() { w.deep-- }()
	if w.deep > 4 || w.Intn(3) == 0 {
		w.leaf(h)
		return
	}
	switch w.Intn(10) {
	case 0:
		n := w.Intn(4)
		w.exprs(h, n)
		w.put(Con, w.Intn(256), n)
	case 1:
		n := 2 + w.Intn(3)
		w.exprs(h, n)
		w.put(Tup, n, 0)
	case 2:
		w.closing(h)
	case 3:
		w.exprs(h, 2)
		w.put(Apply, 0, 0)
	case 4:
		w.branch(h)
	case 5:
		n := w.Intn(3)
		w.exprs(h, n+1)
		w.put(Slide, n, 0)
	case 6:
		w.expr(h)
		w.put(Field, w.Intn(8), 0)
	case 7:
		w.try(h)
	case 8:
		w.put(Begin, 0, 0)
		w.expr(h)
		w.put(Commit, 0, 0)
	case 9:
		w.expr(h)
		if w.code.Globals > 0 {
			w.put(Set, w.Intn(w.code.Globals), 0)
		} else {
			w.put(Pop, 0, 0)
		}
		w.put(Unit, 0, 0)
	}
}

func (w *writer) exprs(h, n int) {
	for i := range n {
		w.expr(h + i)
	}
}

func (w *writer) leaf(h int) {
	switch k := w.Intn(8); {
	case k == 0 && h > 0:
		w.put(Local, w.Intn(h), 0)
	case k == 1 && w.closed[w.fun] > 0:
		w.put(Free, w.Intn(w.closed[w.fun]), 0)
	case k == 2 && w.fun > 0:
		w.put(Self, 0, 0)
	case k == 3 && w.code.Globals > 0:
		w.put(Global, w.Intn(w.code.Globals), 0)
	case k == 4:
		w.put(Prim, w.Intn(40), 0)
	case k == 5:
		w.put(Str, w.Intn(len(w.code.Strs)), 0)
	case k == 6:
		w.put(Float, 1+w.Intn(2), 0)
	default:
		w.put(Int, w.Intn(9)-4, 0)
	}
}

func (w *writer) closing(h int) {
	if len(w.closed) == 1 {
		w.put(Unit, 0, 0)
		return
	}
	f := 1 + w.Intn(len(w.closed)-1)
	w.exprs(h, w.closed[f])
	w.put(Close, f, w.closed[f])
}

// branch goes on in two ways, that meet again, or of which one raises.
func (w *writer) branch(h int) {
	w.expr(h)
	var ask int
	switch w.Intn(4) {
	case 0:
		ask = w.put(Unless, 0, 0)
	case 1:
		ask = w.put(IsInt, w.Intn(5)-2, 0)
	case 2:
		ask = w.put(IsStr, w.Intn(len(w.code.Strs)), 0)
	case 3:
		ask = w.put(IsCon, w.Intn(256), 0)
	}
	w.expr(h)
	jump := w.put(Jump, 0, 0)
	if w.Intn(4) == 0 {
		w.code.Ins[jump].Op = Raise
	}
	if w.code.Ins[ask].Op == Unless {
		w.code.Ins[ask].A = w.here()
	} else {
		w.code.Ins[ask].B = w.here()
	}
	w.expr(h)
	if w.code.Ins[jump].Op == Jump {
		w.code.Ins[jump].A = w.here()
	}
}

func (w *writer) try(h int) {
	try := w.put(Try, 0, 0)
	w.expr(h)
	w.put(EndTry, 0, 0)
	jump := w.put(Jump, 0, 0)
	w.code.Ins[try].A = w.here()
	w.expr(h + 1)
	w.put(Slide, 1, 0)
	w.code.Ins[jump].A = w.here()
}

func TestWrittenCodeIsInOrder(t *testing.T) {
	used := map[int]int{}
	for seed := range 2000 {
		c := newWriter(seed).program()
		if e := Verify(c); e != api.OK || !inOrder(c) {
			t.Fatalf("%s: %d", Text(c), e)
		}
		for _, in := range c.Ins {
			used[in.Op]++
		}
	}
	for op, e := range rows {
		if used[op] < 100 {
			t.Error("there is too little of", e.name, used[op])
		}
	}
}

// TestChangedCode: a step, a number, a place is another one, or gone, or twice there.
func TestChangedCode(t *testing.T) {
	fine, bad := 0, 0
	for seed := range 40000 {
		w := newWriter(seed)
		c := w.program()
		for range 1 + w.Intn(2) {
			c = w.change(c)
		}
		want := inOrder(c)
		if (Verify(c) == api.OK) != want {
			t.Fatalf("%v, %d globals: %s: %v", c.Funs, c.Globals, Text(c), want)
		}
		if want {
			fine++
		} else {
			bad++
		}
	}
	if fine < 4000 || bad < 4000 {
		t.Error("not enough of both", fine, bad)
	}
}

func (w *writer) change(c Code) Code {
	i := w.Intn(len(c.Ins))
	n := w.Intn(len(c.Ins)+2) - 1
	switch w.Intn(9) {
	case 0:
		c.Ins[i].Op = w.Intn(30)
	case 1:
		c.Ins[i].A = n
	case 2:
		c.Ins[i].B = n
	case 3:
		c.Ins[i].A += w.Intn(3) - 1
	case 4:
		c.Ins[i].B += w.Intn(3) - 1
	case 5:
		c.Ins[i] = c.Ins[w.Intn(len(c.Ins))]
	case 6:
		c.Funs[w.Intn(len(c.Funs))] = n
	case 7:
		c.Globals += w.Intn(3) - 1
	case 8:
		j := w.Intn(len(c.Ins))
		c.Ins[i], c.Ins[j] = c.Ins[j], c.Ins[i]
	}
	return c
}

// TestShortCode: all code of three steps out of some, with a Halt behind, or none; of a function, too.
func TestShortCode(t *testing.T) {
	var steps []Ins
	for op := range 30 {
		steps = append(steps, Ins{Op: op})
	}
	for _, op := range []int{Con, Tup, Close, Slide, Jump, Unless, IsInt, Try, Global, Set, Local} {
		for n := 1; n < 4; n++ {
			steps = append(steps, Ins{op, n, 0})
		}
	}
	for n := 1; n < 4; n++ {
		steps = append(steps, Ins{Con, 0, n}, Ins{IsInt, 0, n}, Ins{Close, 1, n})
	}
	fine := 0
	for _, a := range steps {
		for _, b := range steps {
			for _, d := range steps {
				for _, c := range []Code{
					{Ins: []Ins{a, b, d, {Op: Halt}}, Strs: []string{"a"}, Funs: []int{0}, Globals: 2},
					{Ins: []Ins{{Op: Halt}, a, b, d, {Op: Ret}}, Funs: []int{0, 1}},
				} {
					want := inOrder(c)
					if (Verify(c) == api.OK) != want {
						t.Fatalf("%s: %v", Text(c), want)
					}
					if want {
						fine++
					}
				}
			}
		}
	}
	if fine < 1000 {
		t.Error("there is too little that is in order", fine)
	}
}
