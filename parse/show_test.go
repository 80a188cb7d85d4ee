package parse

import (
	"fmt"
	"math"
	"slices"
	"strconv"
	"strings"
	"testing"

	"scriptor/api"
)

// again shows the nodes of a text, and reads that.
func again(t *testing.T, src string) string {
	t.Helper()
	l := wantOK(t, src)
	s := Show(l...)
	m, p, err := Program(s)
	if err != api.OK || !same(l, m, false) {
		t.Errorf("%.80q is shown as %.200q: %v, %v", src, s, p, err)
	}
	return s
}

func TestShow(t *testing.T) {
	for src, want := range map[string]string{
		"":                            "",
		"( do\n\t1 ;a\n)(def x \"\")": "(do 1)\n(def x \"\")\n",
		"(do(f(g 1)()))":              "(do (f (g 1) ()))\n",
		"(do(fn(x _)(let _(tuple 1 -0 007)(seq x Nil))))":               "(do (fn (x _) (let _ (tuple 1 0 7) (seq x Nil))))\n",
		"(rec f(fn(x)(rec g(fn(y)y)(Cons x(g 1)))))":                    "(rec f (fn (x) (rec g (fn (y) y) (Cons x (g 1)))))\n",
		"(do(case 1(2 3)(\"a\"4)(()5)(Nil 6)((C x _)7)((tuple x _)8)))": "(do (case 1 (2 3) (\"a\" 4) (() 5) (Nil 6) ((C x _) 7) ((tuple x _) 8)))\n",
		"(do(try(raise(transact x))(_(if a b c))))":                     "(do (try (raise (transact x)) (_ (if a b c))))\n",
		"(data t()(A))(data l('a 'b)(Nil)(Cons 'a(l 'a 'b)))":           "(data t () (A))\n(data l ('a 'b) (Nil) (Cons 'a (l 'a 'b)))\n",
		"(root r(pref(ref int))(new x))":                                "(root r (pref (ref int)) (new x))\n",
		"(root r(-> a b)1)":                                             "(root r (-> a b) 1)\n",
		"(root r(-> a b c d)1)":                                         "(root r (-> a (-> b (-> c d))) 1)\n",
		"(root r(->(-> a b c)(tuple a b)(-> a b))1)":                    "(root r (-> (-> a (-> b c)) (-> (tuple a b) (-> a b))) 1)\n",
		`(do "\"\\\n\x00\x1f\x20~\x7f\x80\xff\x0a\x41; ()")`:            `(do "\"\\\n\x00\x1f ~\x7f\x80\xff\nA; ()")` + "\n",
		"(do \"é\x7f\xff\")":                                            `(do "\xc3\xa9\x7f\xff")` + "\n",
	} {
		if got := again(t, src); got != want {
			t.Errorf("%q is shown as %q, not %q", src, got, want)
		}
	}
	// What is no whole program is shown, too.
	l := wantOK(t, "(do (case x ((A 1) 2)))(data t ('a) (A 'a))(root r (-> a b c) 1)")
	arm := l[0].Kids[0].Kids[1]
	if got, want := Show(arm, arm.Kids[0], arm.Kids[1], l[1].Kids[0], l[1].Kids[1], l[2].Kids[0]), "((A 1) 2)\n(A 1)\n2\n'a\n(A 'a)\n(-> a (-> b c))\n"; got != want {
		t.Errorf("%q, not %q", got, want)
	}
	if got := Show(); got != "" {
		t.Errorf("%q", got)
	}
}

func TestShowIntegers(t *testing.T) {
	for _, n := range []int{0, 1, -1, 1<<62 - 1, -1 << 62, 10, -999} {
		s := strconv.Itoa(n)
		if got := again(t, "(do (case "+s+" ("+s+" 1)))"); got != "(do (case "+s+" ("+s+" 1)))\n" {
			t.Error(got)
		}
	}
}

func TestShowFloats(t *testing.T) {
	r := newRand(3)
	texts := []string{"0.0", "-0.0", "00.10", "99999999999999.0", "99999999999999.9", "0.00000000000001", "-0.99999999999999", "1.0", "100000000000.0", "900719925474.099", "000000000000.01"}
	for range 20000 {
		digits := 2 + r.Intn(14)
		b := make([]byte, digits)
		for i := range b {
			b[i] = '0' + byte(r.Intn(10))
		}
		point := 1 + r.Intn(digits-1)
		s := string(b[:point]) + "." + string(b[point:])
		if r.Intn(2) == 0 {
			s = "-" + s
		}
		texts = append(texts, s)
	}
	for _, s := range texts {
		again(t, "(do "+s+")")
	}
}

// TestShowStrings: each byte is read again, and is one of those that are shown as they are, or isn't.
func TestShowStrings(t *testing.T) {
	for c := range 256 {
		want := fmt.Sprintf(`\x%02x`, c)
		switch {
		case c == '"' || c == '\\':
			want = `\` + string(rune(c))
		case c == '\n':
			want = `\n`
		case c >= 32 && c <= 126:
			want = string(rune(c))
		}
		if got := again(t, fmt.Sprintf(`(do "\x%02x")`, c)); got != `(do "`+want+`")`+"\n" {
			t.Errorf("%q, not %q", got, want)
		}
	}
	again(t, `(do "`+rep(`\x00`, 4096)+`")`)
}

// TestShowManyArrows: in brackets of their own there would be more than a program may have.
func TestShowManyArrows(t *testing.T) {
	arrows := func(n int) string { return "(->" + rep(" t", n) + " t)" }
	nested := func(n int) string { return rep("(-> t ", n) + "t" + rep(")", n) }
	for _, n := range []int{1, 2, 198, 199} {
		if got := again(t, "(root r "+arrows(n)+" 1)"); got != "(root r "+nested(n)+" 1)\n" {
			t.Errorf("%d arrows are shown as %q", n, got)
		}
	}
	for _, n := range []int{200, 201, 250, 1000, 30000} {
		if got := again(t, "(root r "+arrows(n)+" 1)"); got != "(root r "+arrows(n)+" 1)\n" {
			t.Errorf("%d arrows are shown as %.200q", n, got)
		}
	}
	again(t, "(root r (list "+arrows(198)+") 1)")
	again(t, "(root r (list "+arrows(199)+") 1)")
	again(t, "(root r (-> "+arrows(150)+" (list "+arrows(198)+")) 1)")
	again(t, "(data t () (A "+arrows(198)+"))(do 1)")
	again(t, "(data t () (A "+arrows(197)+" int))(data u () (A "+arrows(150)+" "+arrows(300)+"))")
	// A text of so many bytes, and with brackets of more.
	for n := 4500; n < 6400; n += 100 {
		again(t, "(data t ()"+rep("(A (-> a b))(A (-> a b c))", n/4)+")")
	}
	again(t, "(data t ()"+rep("(A (-> a b c))", 4300)+")")
	if got := again(t, "(data t () (A (-> a b c)))"+rep(" ", 65000)); got != "(data t () (A (-> a (-> b c))))\n" {
		t.Error(got)
	}
}

// TestShowUpToTheLimit: in brackets of their own up to the last byte that a text may have.
func TestShowUpToTheLimit(t *testing.T) {
	nested, flat := "(root r (-> a (-> b c)) ", "(root r (-> a b c) "
	for size := 65530; size <= 65541; size++ {
		// Names of at most 40 bytes, with a blank behind each, and a last one that fills up.
		left := size - len(nested) - len("(seq ))\n")
		names := rep("xxx ", left/4-1) + rep("y", 4+left%4)
		want := nested + "(seq " + names + "))\n"
		if len(want) != size {
			t.Fatal(len(want), size)
		}
		if size > 65536 {
			want = flat + "(seq " + names + "))\n"
		}
		if got := again(t, flat+"(seq "+names+"))"); got != want {
			t.Errorf("%d bytes: %.100q", size, got)
		}
	}
}

// TestShowTooLong: of what no text can say it is what the trees are, with arrows in brackets of their own.
func TestShowTooLong(t *testing.T) {
	src := "(root r (-> a b c) (seq" + rep(` "`+rep("\xff", 4000)+`"`, 16) + "))"
	want := "(root r (-> a (-> b c)) (seq" + rep(` "`+rep(`\xff`, 4000)+`"`, 16) + "))\n"
	if got := Show(wantOK(t, src)...); got != want {
		t.Errorf("%.100q", got)
	}
	many := make([]Node, 20000)
	for i := range many {
		many[i] = wantOK(t, "(do 1)")[0]
	}
	if got := Show(many...); got != rep("(do 1)\n", 20000) {
		t.Errorf("%.100q", got)
	}
	// Each of a list has as many nodes as a text may have, and no fewer are shown.
	big := wantOK(t, "(do (seq"+rep(" x", 32000)+"))")[0]
	if got := Show(big, big, big); got != rep("(do (seq"+rep(" x", 32000)+"))\n", 3) {
		t.Errorf("%.100q", got)
	}
}

// TestShowAnyNodes: of nodes that no text makes it ends, whatever it is.
func TestShowAnyNodes(t *testing.T) {
	odd := []Node{{}, {Op: -1}, {Op: math.MaxInt, Text: "a b"}}
	for op := -2; op < 60; op++ {
		for _, text := range []string{"", "->", "x", "(", "\xff", rep("\x00", 9)} {
			for n := range 4 {
				node := Node{Op: op, Text: text, Num: math.MinInt, Kids: make([]Node, n)}
				for i := range node.Kids {
					node.Kids[i] = odd[i%len(odd)]
				}
				Show(node)
				Show(Node{Op: TName, Text: "->", Kids: []Node{node, node}}, Node{Op: Data, Kids: []Node{node, node}}, Node{Op: Fn, Kids: []Node{node}})
				outer := Node{Op: op, Text: text, Kids: append(slices.Clone(node.Kids), node)}
				Show(outer, outer)
			}
		}
	}
	for _, op := range []int{Con, Fn, App, Let, Case, Arm, PTup, TName, Data, DCon, Do} {
		for kids := 1; kids < 3; kids++ {
			// within itself
			l := make([]Node, kids)
			for i := range l {
				l[i] = Node{Op: op, Text: "->", Kids: l}
			}
			Show(l[0])
			// of few lists, of which each is shared by all of the next one
			n := Node{Op: op, Text: "->"}
			for range 70 {
				n = Node{Op: op, Text: "->", Kids: []Node{n, n}[:kids]}
			}
			Show(n)
		}
	}
	deep := Node{Op: Var, Text: "x"}
	for range 1 << 16 {
		deep = Node{Op: Seq, Kids: []Node{deep}}
	}
	Show(deep)
	for _, bits := range []string{"\x7f\xf8\x00\x00\x00\x00\x00\x00", "\xff\xf0\x00\x00\x00\x00\x00\x00", "\x7f\xef\xff\xff\xff\xff\xff\xff", "\x00\x00\x00\x00\x00\x00\x00\x01", "", "\x01", rep("\xff", 100)} {
		Show(Node{Op: Float, Text: bits})
	}
}

// TestShowKeepsNothing: what is handed in isn't changed.
func TestShowKeepsNothing(t *testing.T) {
	g := &maker{Rand: newRand(6)}
	for range 200 {
		src := g.program(4)
		l, _, err := Program(src)
		if err != api.OK {
			continue
		}
		one := Show(l...)
		m, _, _ := Program(src)
		if !same(l, m, true) || Show(l...) != one {
			t.Fatal(src)
		}
	}
}

// TestExamples are the chapter's.
func TestExamples(t *testing.T) {
	wantNode(t, "(def f (fn (x) (+ x 1)))", node(Def, 1, "f", node(Fn, 8, "", node(PVar, 13, "x"), node(App, 16, "", node(Var, 17, "+"), node(Var, 19, "x"), number(Int, 21, 1)))))
	wantSyntax(t, "(let 1 2 3)", at(1, 1))
	wantSyntax(t, "(do (let 1 2 3))", at(1, 5))
	if strings.Count(again(t, "(do 1)(do 2)"), "\n") != 2 {
		t.Error("not two lines")
	}
}
