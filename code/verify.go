package code

import (
	"scriptor/api"
	"scriptor/num"
)

const (
	maxSteps   = 65536
	maxFuns    = 4096
	maxTexts   = 4096
	maxGlobals = 4096
	maxHeight  = 10000
	maxPrim    = 39
	maxCon     = 255
	maxClosed  = 200
	maxField   = 7
	floatSize  = 8
)

// frame is how it is where a step is come to.
type frame struct {
	fun, height int
	// open is the number of the innermost bracket that is open; 0: there is none.
	open int
}

// bracket is one that is open.
type bracket struct {
	outer int // the number of the one around it
	op    int // Try or Begin
	at    int // of a Try, its A
}

// checker goes through code, from the functions' first steps on.
type checker struct {
	code   Code
	closed []int // of each function, how many values are closed in; it may be any number
	frames []frame
	known  []bool // was a step come to?
	work   []int  // the steps that are to be looked at
	// brackets are those that are open anywhere, by their numbers: so that the
	// same ones within one another have one number.
	brackets []bracket
	numbers  map[bracket]int
}

// verify throws ErrForm, if code isn't in order.
func verify(c Code) {
	checkSizes(c)
	k := &checker{
		code:     c,
		closed:   closedIn(c),
		frames:   make([]frame, len(c.Ins)),
		known:    make([]bool, len(c.Ins)),
		brackets: make([]bracket, 1),
		numbers:  map[bracket]int{},
	}
	for i, at := range c.Funs {
		k.come(at, frame{fun: i, height: min(i, 1)})
	}
	for len(k.work) > 0 {
		last := len(k.work) - 1
		at := k.work[last]
		k.work = k.work[:last]
		k.step(at)
	}
}

// checkSizes looks at what must hold of all code, and of steps that nobody comes to.
func checkSizes(c Code) {
	need(between(len(c.Ins), 1, maxSteps))
	need(between(len(c.Funs), 1, maxFuns))
	need(len(c.Strs) <= maxTexts)
	need(between(c.Globals, 0, maxGlobals))
	for _, s := range c.Strs {
		need(len(s) <= api.MaxStr)
	}
	for _, in := range c.Ins {
		for _, n := range unnamed(in) {
			need(n == 0)
		}
	}
}

// mayBeClosed: is there such a function, and isn't it the whole program?
func mayBeClosed(c Code, fun int) bool { return fun != 0 && isOneOf(fun, len(c.Funs)) }

// closedIn is of each function how many values are closed in, by all steps that
// say so, whether anybody comes to them or not.
func closedIn(c Code) []int {
	closed := make([]int, len(c.Funs))
	named := make([]bool, len(c.Funs))
	for _, in := range c.Ins {
		if in.Op != Close || !mayBeClosed(c, in.A) {
			continue
		}
		need(!named[in.A] || closed[in.A] == in.B)
		closed[in.A], named[in.A] = in.B, true
	}
	return closed
}

func between(n, least, most int) bool { return least <= n && n <= most }

// isOneOf: is n one of so many, from 0 on?
func isOneOf(n, count int) bool { return 0 <= n && n < count }

// come is on to a step.
func (k *checker) come(at int, f frame) {
	need(isOneOf(at, len(k.code.Ins)) && f.height <= maxHeight)
	if k.known[at] {
		need(k.frames[at] == f)
		return
	}
	k.frames[at], k.known[at] = f, true
	k.work = append(k.work, at)
}

// step looks at one that is come to, and goes on from there.
func (k *checker) step(at int) {
	in, f := k.code.Ins[at], k.frames[at]
	need(isStep(in))
	k.checkOperands(in, f)
	// A count may be anything: it isn't added to.
	need(counted(in) <= f.height-table[in.Op].least)
	next := f
	next.height += table[in.Op].grows - counted(in)
	switch in.Op {
	case Ret:
		need(f.height == 2 && f.fun != 0 && f.open == 0)
		return
	case Halt:
		need(f.fun == 0 && f.open == 0)
		return
	case Raise:
		return
	case Jump:
		k.come(in.A, next)
		return
	case Unless:
		k.come(in.A, next)
	case IsInt, IsStr, IsCon:
		k.come(in.B, next)
	case Try:
		taken := f
		taken.height++
		k.come(in.A, taken)
		next.open = k.number(bracket{f.open, Try, in.A})
	case Begin:
		next.open = k.number(bracket{f.open, Begin, 0})
	case EndTry:
		next.open = k.closes(f, Try)
	case Commit:
		next.open = k.closes(f, Begin)
	}
	k.come(at+1, next)
}

// checkOperands looks at A and B, but for the steps that they name.
func (k *checker) checkOperands(in Ins, f frame) {
	switch in.Op {
	case Int, IsInt:
		need(in.A == num.Wrap(in.A))
	case Str, IsStr:
		k.text(in.A)
	case Float:
		need(isFloat(k.text(in.A)))
	case Local:
		need(isOneOf(in.A, f.height))
	case Free:
		need(isOneOf(in.A, k.closed[f.fun]))
	case Self:
		need(f.fun != 0)
	case Global, Set:
		need(isOneOf(in.A, k.code.Globals))
	case Prim:
		need(between(in.A, 0, maxPrim))
	case Con:
		need(between(in.A, 0, maxCon) && between(in.B, 0, api.MaxArgs))
	case IsCon:
		need(between(in.A, 0, maxCon))
	case Tup:
		need(between(in.A, 2, api.MaxArgs))
	case Close:
		need(mayBeClosed(k.code, in.A) && between(in.B, 0, maxClosed))
	case Slide:
		need(in.A >= 0)
	case Field:
		need(between(in.A, 0, maxField))
	}
}

func (k *checker) text(n int) string {
	need(isOneOf(n, len(k.code.Strs)))
	return k.code.Strs[n]
}

// isFloat: is a text the bytes of a float as there may be one?
func isFloat(s string) bool {
	if len(s) != floatSize {
		return false
	}
	x := num.Float(0)
	for i := range len(s) {
		x = x<<8 | num.Float(s[i])
	}
	// Only a NaN isn't the same as itself.
	return x.Same(x) || x == num.Nan
}

// number is a bracket's.
func (k *checker) number(b bracket) int {
	n, ok := k.numbers[b]
	if !ok {
		n = len(k.brackets)
		k.brackets = append(k.brackets, b)
		k.numbers[b] = n
	}
	return n
}

// closes is what is open behind the end of such a bracket.
func (k *checker) closes(f frame, op int) int {
	need(f.open != 0)
	b := k.brackets[f.open]
	need(b.op == op)
	return b.outer
}
