package code

import (
	"fmt"
	"math"
	"slices"
	"strings"
	"testing"

	"scriptor/api"
)

// The model goes through code as the chapter's table says: each step keeps all
// ways in which it was come to, as they are, and there may be but one of each.

// chapter is the table: Op's name, which of A and B it names, what it does to the height.
const chapter = `
0 Int A | +1
1 Str A | +1
2 Float A | +1
3 Unit | +1
4 Local A | +1
5 Free A | +1
6 Self | +1
7 Global A | +1
8 Set A | -1
9 Prim A | +1
10 Con A B | +1 -B
11 Tup A | +1 -A
12 Close A B | +1 -B
13 Apply | -1
14 Ret | ends
15 Jump A | 0
16 Unless A | -1
17 Pop | -1
18 Slide A | -A
19 Field A | 0
20 IsInt A B | -1
21 IsStr A B | -1
22 IsCon A B | -1
23 Raise | ends
24 Try A | 0
25 EndTry | 0
26 Begin | 0
27 Commit | 0
28 Halt | ends
`

type entry struct {
	name   string
	a, b   bool
	height string
}

// rows are the table's.
var rows = entries()

func entries() []entry {
	var l []entry
	for i, line := range strings.Split(strings.TrimSpace(chapter), "\n") {
		left, height, _ := strings.Cut(line, " | ")
		words := strings.Fields(left)
		if words[0] != fmt.Sprint(i) {
			panic(line)
		}
		l = append(l, entry{words[1], slices.Contains(words, "A"), slices.Contains(words, "B"), height})
	}
	return l
}

// way is how a step is come to; the brackets are words, from outside to inside.
type way struct {
	at, fun, height int
	open            string
}

// grown is the height behind a step; -1: it would be below 0.
func grown(height int, in Ins, words string) int {
	h := int64(height)
	for _, w := range strings.Fields(words) {
		switch w {
		case "+1":
			h++
		case "-1":
			h--
		case "-A", "-B":
			n := in.A
			if w == "-B" {
				n = in.B
			}
			if n < 0 || n > 1<<20 {
				return -1
			}
			h -= int64(n)
		}
	}
	return int(max(h, -1))
}

// count is how many values a function has closed in; false: not all say the same.
func count(c Code, fun int) (int, bool) {
	var all []int
	for _, in := range c.Ins {
		if in.Op == Close && in.A == fun {
			all = append(all, in.B)
		}
	}
	if len(all) == 0 || fun == 0 {
		return 0, true
	}
	return all[0], slices.Min(all) == slices.Max(all)
}

// mayBe: does what must hold at a step hold, but for the steps to which it goes on?
func mayBe(c Code, w way) bool {
	in := c.Ins[w.at]
	a, b, h := in.A, in.B, w.height
	in63 := a <= 1<<62-1 && a >= -1<<62
	switch in.Op {
	case 0:
		return in63
	case 1:
		return a >= 0 && a < len(c.Strs)
	case 2:
		if a < 0 || a >= len(c.Strs) || len(c.Strs[a]) != 8 {
			return false
		}
		bits := uint64(0)
		for _, x := range []byte(c.Strs[a]) {
			bits = bits*256 + uint64(x)
		}
		return !math.IsNaN(math.Float64frombits(bits)) || bits == 0x7FF8<<48
	case 4:
		return a >= 0 && a < h
	case 5:
		n, _ := count(c, w.fun)
		return a >= 0 && a < n
	case 6:
		return w.fun != 0
	case 7:
		return a >= 0 && a < c.Globals
	case 8:
		return a >= 0 && a < c.Globals && h >= 1
	case 9:
		return a >= 0 && a < 40
	case 10:
		return a >= 0 && a < 256 && b >= 0 && b <= 8 && b <= h
	case 11:
		return a >= 2 && a <= 8 && a <= h
	case 12:
		return a > 0 && a < len(c.Funs) && b >= 0 && b <= 200 && b <= h
	case 13:
		return h >= 2
	case 14:
		return h == 2 && w.fun != 0 && w.open == ""
	case 16, 17, 23:
		return h >= 1
	case 18:
		return a >= 0 && a < h
	case 19:
		return h >= 1 && a >= 0 && a < 8
	case 20:
		return h >= 1 && in63
	case 21:
		return h >= 1 && a >= 0 && a < len(c.Strs)
	case 22:
		return h >= 1 && a >= 0 && a < 256
	case 25:
		return strings.HasPrefix(w.open[strings.LastIndex(w.open, " ")+1:], "try")
	case 27:
		return strings.HasSuffix(w.open, "begin")
	case 28:
		return w.fun == 0 && w.open == ""
	}
	return in.Op == 3 || in.Op == 15 || in.Op == 24 || in.Op == 26
}

// onward are the ways to which a step goes on.
func onward(c Code, w way) []way {
	in := c.Ins[w.at]
	next := w
	next.at++
	next.height = grown(w.height, in, rows[in.Op].height)
	other := next
	switch in.Op {
	case 14, 23, 28:
		return nil
	case 15:
		next.at = in.A
	case 16, 20, 21, 22:
		other.at = in.A
		if in.Op != 16 {
			other.at = in.B
		}
		return []way{next, other}
	case 24:
		other.at = in.A
		other.height++
		next.open += fmt.Sprint(" try", in.A)
		return []way{next, other}
	case 26:
		next.open += " begin"
	case 25, 27:
		next.open = next.open[:strings.LastIndex(next.open, " ")]
	}
	return []way{next}
}

// inOrder: is code in order?
func inOrder(c Code) bool {
	if len(c.Ins) < 1 || len(c.Ins) > 65536 || len(c.Funs) < 1 || len(c.Funs) > 4096 || len(c.Strs) > 4096 || c.Globals < 0 || c.Globals > 4096 {
		return false
	}
	for _, s := range c.Strs {
		if len(s) > 4096 {
			return false
		}
	}
	for _, in := range c.Ins {
		e := entry{}
		if in.Op >= 0 && in.Op < len(rows) {
			e = rows[in.Op]
		}
		if !e.a && in.A != 0 || !e.b && in.B != 0 {
			return false
		}
	}
	came := map[int]way{}
	var work []way
	for f, at := range c.Funs {
		if _, ok := count(c, f); !ok {
			return false
		}
		w := way{at: at, fun: f, height: 1}
		if f == 0 {
			w.height = 0
		}
		work = append(work, w)
	}
	for ; len(work) > 0; work = work[1:] {
		w := work[0]
		if w.at < 0 || w.at >= len(c.Ins) || w.height > 10000 {
			return false
		}
		if before, ok := came[w.at]; ok {
			if before != w {
				return false
			}
			continue
		}
		came[w.at] = w
		if !mayBe(c, w) {
			return false
		}
		work = append(work, onward(c, w)...)
	}
	return true
}

// strs are the texts of all code that the tests write down.
func strs() []string {
	float := "?\xf0\x00\x00\x00\x00\x00\x00"
	return []string{"a", float, "\x7f\xf8\x00\x00\x00\x00\x00\x00", "\x7f\xf8\x00\x00\x00\x00\x00\x01", "\xff\xf8\x00\x00\x00\x00\x00\x00", "\xff\xf0\x00\x00\x00\x00\x00\x00", "1234567", "123456789", ""}
}

// asm makes code of words: steps with a semicolon between, functions with a bar. There are 3 globals.
func asm(src string) Code {
	c := Code{Strs: strs(), Globals: 3}
	ops := map[string]int{}
	for i, e := range rows {
		ops[e.name] = i
	}
	for _, fun := range strings.Split(src, "|") {
		c.Funs = append(c.Funs, len(c.Ins))
		for _, step := range strings.Split(fun, ";") {
			words := strings.Fields(step)
			in := Ins{}
			op, ok := ops[words[0]]
			if !ok {
				fmt.Sscan(words[0], &op)
			}
			in.Op = op
			if len(words) > 1 {
				fmt.Sscan(words[1], &in.A)
			}
			if len(words) > 2 {
				fmt.Sscan(words[2], &in.B)
			}
			c.Ins = append(c.Ins, in)
		}
	}
	return c
}

// verdict asks Verify, the model and Encode.
func verdict(t *testing.T, c Code, what string, want bool) {
	t.Helper()
	e := api.ErrForm
	if want {
		e = api.OK
	}
	if got := Verify(c); got != e {
		t.Errorf("%.200s: %d, not %d", what, got, e)
	}
	if inOrder(c) != want {
		t.Errorf("%.200s: the model says otherwise", what)
	}
	if b, got := Encode(c); got != e || (b != nil) != want {
		t.Errorf("%.200s: Encode answers %d", what, got)
	}
	if back, got := Decode(bytesOf(c)); got != e || want && !same(back, c) || !want && !same(back, Code{}) {
		t.Errorf("%.200s: Decode answers %d, %.200s", what, got, fmt.Sprint(back))
	}
}

func same(a, b Code) bool {
	return slices.Equal(a.Ins, b.Ins) && slices.Equal(a.Strs, b.Strs) && slices.Equal(a.Funs, b.Funs) && a.Globals == b.Globals
}
