package parse

import (
	"fmt"
	"strings"
	"testing"

	"scriptor/api"
)

func at(line, col int) api.Pos { return api.Pos{Line: line, Col: col} }

func rep(s string, n int) string { return strings.Repeat(s, n) }

// node is one that begins at a column of the first line.
func node(op, col int, text string, kids ...Node) Node {
	return Node{Op: op, At: at(1, col), Text: text, Kids: kids}
}

func number(op, col, n int) Node { return Node{Op: op, At: at(1, col), Num: n} }

func wantNode(t *testing.T, src string, want Node) {
	t.Helper()
	got, p, err := Program(src)
	if err != api.OK || p != (api.Pos{}) || !same(got, []Node{want}, true) {
		t.Errorf("Program(%q) = %+v, %v, %v, not %+v", src, got, p, err, want)
	}
}

func wantSyntax(t *testing.T, src string, want api.Pos) {
	t.Helper()
	got, p, err := Program(src)
	if err != api.ErrSyntax || p != want || got != nil {
		t.Errorf("Program(%.80q) = %v, %v, %v, not %v", src, got, p, err, want)
	}
}

func wantOK(t *testing.T, src string) []Node {
	t.Helper()
	got, p, err := Program(src)
	if err != api.OK || p != (api.Pos{}) {
		t.Errorf("Program(%.80q): %v, %v", src, p, err)
	}
	return got
}

func TestNoTrees(t *testing.T) {
	for _, src := range []string{"", " \n", "; a"} {
		if got := wantOK(t, src); got != nil {
			t.Error(got)
		}
	}
}

// TestExpressions: each row of the table, as what a do does.
func TestExpressions(t *testing.T) {
	x, y := node(Var, 10, "x"), node(Var, 12, "y")
	for src, want := range map[string]Node{
		"7": number(Int, 5, 7), "-0": number(Int, 5, 0), "1.5": node(Float, 5, "\x3f\xf8\x00\x00\x00\x00\x00\x00"), `"a\n"`: node(Str, 5, "a\n"), `""`: node(Str, 5, ""),
		"()": node(Unit, 5, ""), "( ;\n)": node(Unit, 5, ""), "x": node(Var, 5, "x"), "->": node(Var, 5, "->"), "ref": node(Var, 5, "ref"), "Nil": node(Con, 5, "Nil"),
		"(Co x y)":             node(Con, 5, "Co", node(Var, 9, "x"), node(Var, 11, "y")),
		"(fn (x _) x)":         node(Fn, 5, "", node(PVar, 10, "x"), node(PAny, 12, ""), node(Var, 15, "x")),
		"(fn (x x) 1)":         node(Fn, 5, "", node(PVar, 10, "x"), node(PVar, 12, "x"), number(Int, 15, 1)),
		"(let x 1 2)":          node(Let, 5, "x", number(Int, 12, 1), number(Int, 14, 2)),
		"(let _ 1 2)":          node(Let, 5, "_", number(Int, 12, 1), number(Int, 14, 2)),
		"(rec f (fn (x) 1) f)": node(Rec, 5, "f", node(Fn, 12, "", node(PVar, 17, "x"), number(Int, 20, 1)), node(Var, 23, "f")),
		"(if a x y)":           node(If, 5, "", node(Var, 9, "a"), node(Var, 11, "x"), node(Var, 13, "y")),
		"(seq x y)":            node(Seq, 5, "", x, y),
		"(seqx y)":             node(App, 5, "", node(Var, 6, "seqx"), node(Var, 11, "y")),
		"(tuple x y)":          node(Tup, 5, "", node(Var, 12, "x"), node(Var, 14, "y")),
		"(case x (y 1))":       node(Case, 5, "", node(Var, 11, "x"), node(Arm, 13, "", node(PVar, 14, "y"), number(Int, 16, 1))),
		"(try  x (_ 1) (2 x))": node(Try, 5, "", node(Var, 11, "x"), node(Arm, 13, "", node(PAny, 14, ""), number(Int, 16, 1)), node(Arm, 19, "", number(PInt, 20, 2), node(Var, 22, "x"))),
		"(raise x)":            node(Raise, 5, "", node(Var, 12, "x")),
		"(transact x)":         node(Trans, 5, "", node(Var, 15, "x")),
		"(f  (x y) 1)":         node(App, 5, "", node(Var, 6, "f"), node(App, 9, "", x, y), number(Int, 15, 1)),
		"(1 2)":                node(App, 5, "", number(Int, 6, 1), number(Int, 8, 2)),
		"((fn (x) x) 2)":       node(App, 5, "", node(Fn, 6, "", node(PVar, 11, "x"), node(Var, 14, "x")), number(Int, 17, 2)),
		"(() ())":              node(App, 5, "", node(Unit, 6, ""), node(Unit, 9, "")),
		"(\"fn\" 1)":           node(App, 5, "", node(Str, 6, "fn"), number(Int, 11, 1)),
	} {
		wantNode(t, "(do "+src+")", node(Do, 1, "", want))
	}
}

// TestPatterns: each row, as that of an arm.
func TestPatterns(t *testing.T) {
	for src, want := range map[string]Node{
		"_": node(PAny, 14, ""), "x": node(PVar, 14, "x"), "->": node(PVar, 14, "->"), "7": number(PInt, 14, 7), `"a"`: node(PStr, 14, "a"), "()": node(PUnit, 14, ""), "Nil": node(PCon, 14, "Nil"),
		"(Co x _)":           node(PCon, 14, "Co", node(PVar, 18, "x"), node(PAny, 20, "")),
		"(tuple x 1)":        node(PTup, 14, "", node(PVar, 21, "x"), number(PInt, 23, 1)),
		"(tuple _ (A _ ()))": node(PTup, 14, "", node(PAny, 21, ""), node(PCon, 23, "A", node(PAny, 26, ""), node(PUnit, 28, ""))),
	} {
		src = "(do (case 1 (" + src + " 2)))"
		wantNode(t, src, node(Do, 1, "", node(Case, 5, "", number(Int, 11, 1), node(Arm, 13, "", want, number(Int, len(src)-3, 2)))))
	}
}

// TestTypes: each row, as that of a root.
func TestTypes(t *testing.T) {
	a, b, c := node(TName, 13, "a"), node(TName, 15, "b"), node(TName, 17, "c")
	for src, want := range map[string]Node{
		"'a": node(TVar, 9, "'a"), "''": node(TVar, 9, "''"), "int": node(TName, 9, "int"), "+": node(TName, 9, "+"),
		"(aa a b)":         node(TName, 9, "aa", a, b),
		"(aa 'b)":          node(TName, 9, "aa", node(TVar, 13, "'b")),
		"(-> a b)":         node(TName, 9, "->", a, b),
		"(-> a b c)":       node(TName, 9, "->", a, node(TName, 9, "->", b, c)),
		"(-> a b c d)":     node(TName, 9, "->", a, node(TName, 9, "->", b, node(TName, 9, "->", c, node(TName, 19, "d")))),
		"(-> a (-> c c))":  node(TName, 9, "->", a, node(TName, 15, "->", node(TName, 19, "c"), node(TName, 21, "c"))),
		"(-> (-> c c) b)":  node(TName, 9, "->", node(TName, 13, "->", node(TName, 17, "c"), node(TName, 19, "c")), node(TName, 22, "b")),
		"(tuple a b)":      node(TName, 9, "tuple", node(TName, 16, "a"), node(TName, 18, "b")),
		"(ref (pref int))": node(TName, 9, "ref", node(TName, 14, "pref", node(TName, 20, "int"))),
	} {
		wantNode(t, "(root r "+src+" 1)", node(Root, 1, "r", want, number(Int, len(src)+10, 1)))
	}
}

func TestTops(t *testing.T) {
	fn := node(Fn, 8, "", node(PVar, 13, "x"), node(Var, 16, "x"))
	for src, want := range map[string]Node{
		"(data t () (A))":   node(Data, 1, "t", node(DCon, 12, "A")),
		"(data t ('a) (A))": node(Data, 1, "t", node(TVar, 10, "'a"), node(DCon, 14, "A")),
		"(data l ('a 'a) (N) (C 'a (l int int)))": node(Data, 1, "l", node(TVar, 10, "'a"), node(TVar, 13, "'a"), node(DCon, 17, "N"),
			node(DCon, 21, "C", node(TVar, 24, "'a"), node(TName, 27, "l", node(TName, 30, "int"), node(TName, 34, "int")))),
		"(root r int 1)":     node(Root, 1, "r", node(TName, 9, "int"), number(Int, 13, 1)),
		"(def x y)":          node(Def, 1, "x", node(Var, 8, "y")),
		"(rec f (fn (x) x))": node(DefRec, 1, "f", fn),
		"(do y)":             node(Do, 1, "", node(Var, 5, "y")),
	} {
		wantNode(t, src, want)
	}
	l := wantOK(t, "\n(do 1);a\n (def x 2)(do\n3)")
	if len(l) != 3 || l[0].At != at(2, 1) || l[1].At != at(3, 2) || l[1].Kids[0].At != at(3, 9) || l[2].At != at(3, 11) || l[2].Kids[0].At != at(4, 1) {
		t.Error(l)
	}
}

// TestCounts tries brackets with more and fewer trees than there may be.
func TestCounts(t *testing.T) {
	const many = 30
	for _, c := range []struct {
		ahead, one, behind string
		least, most        int
		// col is where the tree begins that is wrong then.
		col int
	}{
		{"(do (C", " x", "))", 1, 8, 5},
		{"(do (fn (", " x", ") 1))", 1, 8, 5},
		{"(do (fn (x)", " x", "))", 1, 1, 5},
		{"(do (let x", " x", "))", 2, 2, 5},
		{"(do (rec x", " (fn (x) x)", "))", 2, 2, 5},
		{"(do (if", " x", "))", 3, 3, 5},
		{"(do (seq", " x", "))", 1, many, 5},
		{"(do (tuple", " x", "))", 2, 8, 5},
		{"(do (case x", " (x x)", "))", 1, many, 5},
		{"(do (try x", " (x x)", "))", 1, many, 5},
		{"(do (raise", " x", "))", 1, 1, 5},
		{"(do (transact", " x", "))", 1, 1, 5},
		{"(do (x", " x", "))", 1, 8, 5},
		{"(do (case x (", " x", ")))", 2, 2, 13},
		{"(do (case x ((C", " _", ") x)))", 1, 8, 14},
		{"(do (case x ((tuple", " _", ") x)))", 2, 8, 14},
		{"(root x (t", " t", ") x)", 1, 8, 9},
		{"(root x (->", " t", ") x)", 2, many, 9},
		{"(root x (tuple", " t", ") x)", 2, 8, 9},
		{"(root x (ref", " t", ") x)", 1, 1, 9},
		{"(root x (pref", " t", ") x)", 1, 1, 9},
		{"(data t (", " 'a", ") (A))", 0, 8, 1},
		{"(data t ('a)", " (A)", ")", 1, many, 1},
		{"(data t () (A", " t", "))", 0, 8, 12},
		{"(root x t", " x", ")", 1, 1, 1},
		{"(def x", " x", ")", 1, 1, 1},
		{"(rec x", " (fn (x) x)", ")", 1, 1, 1},
		{"(do", " x", ")", 1, 1, 1},
	} {
		for n := range 13 {
			src := c.ahead + rep(c.one, n) + c.behind
			if n < c.least || n > c.most && c.most != many {
				wantSyntax(t, src, at(1, c.col))
			} else {
				wantOK(t, src)
			}
		}
	}
	wantOK(t, "(do (seq"+rep(" 1", 30000)+"))")
	wantOK(t, "(do (case 1"+rep("(1 2)", 10000)+"))")
	wantOK(t, "(data t ()"+rep("(A)", 20000)+")")
}

const wrongNames = "fn let rec if seq tuple case try raise transact data root def do 'a ' '"

// TestNames tries what may be no name in each place of one.
func TestNames(t *testing.T) {
	var words []string
	words = append(words, strings.Fields(wrongNames)...)
	words = append(words, "A", "1", "1.5", `"x"`, "()", "(x)", "(fn (x) x)")
	for _, c := range []struct {
		src         string
		col         int
		any, arrows bool
	}{
		{"(do (fn (%) 1))", 5, true, true}, {"(do (fn (x % y) 1))", 5, true, true}, {"(do (let % 1 2))", 5, true, true},
		{"(do (rec % (fn (x) x) 2))", 5, false, true}, {"(root % int 1)", 1, false, true}, {"(def % 1)", 1, false, true},
		{"(rec % (fn (x) x))", 1, false, true}, {"(data % () (A))", 1, false, false},
	} {
		for _, w := range words {
			wantSyntax(t, strings.Replace(c.src, "%", w, 1), at(1, c.col))
		}
		for _, w := range []string{"x", "+", "x'", "fn1", "-1a", "int", "__"} {
			wantOK(t, strings.Replace(c.src, "%", w, 1))
		}
		for w, ok := range map[string]bool{"_": c.any, "->": c.arrows, "ref": c.arrows, "pref": c.arrows} {
			src := strings.Replace(c.src, "%", w, 1)
			if ok {
				wantOK(t, src)
			} else {
				wantSyntax(t, src, at(1, c.col))
			}
		}
	}
	for _, w := range []string{"a", "_", "'", "A", "1", "()", "('a)", "fn"} {
		wantSyntax(t, "(data t ("+w+") (A))", at(1, 1))
		wantSyntax(t, "(data t ('a "+w+" 'b) (A))", at(1, 1))
	}
	for _, w := range []string{"x", "'a", "A", "1", "fn", "\"\""} {
		wantSyntax(t, "(data t "+w+" (A))", at(1, 1))
		wantSyntax(t, "(do (fn "+w+" 1))", at(1, 5))
	}
	for _, w := range []string{"1", "f", "()", "(f x)", "(\"fn\" (x) x)", "(Fn (x) x)", "((fn (x) x) 1)", "fn"} {
		wantSyntax(t, "(rec f "+w+")", at(1, 1))
		wantSyntax(t, "(do (rec f "+w+" 1))", at(1, 5))
	}
}

// TestWhatIsNone tries in each place what is no expression, pattern, type, arm, constructor with types, part of a program there.
func TestWhatIsNone(t *testing.T) {
	for place, wrong := range map[string]string{
		"(do %)":                    "_ 'a ' fn let do (C) (x) (fn) (let) (let~x~1~2~3) (tuple) (data~t~()~(A)) (root~x~int~1) (def~x~1) (do~1) (rec~x~(fn~(x)~x)) (case~1) (try~1) (raise) (transact) (if) (seq) (())",
		"(do (f 1 %))":              "_ 'a ' fn tuple (C) (x)",
		"(do (% 1))":                "_ 'a (f)",
		"(do (case % (x 1)))":       "_ 'a (x) (C)",
		"(do (case 1 (x %)))":       "_ 'a (x) (C)",
		"(do (case 1 (% 1)))":       "1.5 'a ' fn tuple (x) (x~y) (C) (tuple) (tuple~x) (seq~x) (->~x~y) (()~x) (1~x) (_)",
		"(do (case 1 ((A %) 1)))":   "1.5 'a fn (x~y) (C) (tuple~x)",
		"(do (case 1 %))":           "x 1 _ () (x) (x~1~2) A (A~x~1) \"\"",
		"(do (case 1 (x 1) %))":     "x () (x)",
		"(do (try 1 %))":            "x () (x) (x~1~2)",
		"(root r % 1)":              "_ ' -> ref pref tuple fn A 1 1.5 \"int\" () (int) (A~int) (->) (->~int) (ref) (ref~int~int) (pref) (tuple~int) ('a~int) (fn~int) ((int)~int) (1~2) (_~int)",
		"(root r (list %) 1)":       "_ ' -> A 1 ()",
		"(root r (-> int % int) 1)": "_ ' -> A 1 ()",
		"(data t () %)":             "A x 1 () (x) (1) ((A)) (fn) ('a) \"A\"",
		"(data t () (A) %)":         "A x 1 ()",
		"(data t () (A int %))":     "_ A (A) (A~int) 1 ()",
		"%":                         "x 1 A () (x) (fn~(x)~x) (let~x~1~2) (data) (root) (def) (rec) (do) (rec~x~(fn~(x)~x)~1) (A) (\"do\"~1) (dox~1) ((do~1)) \"\" 1.5 _",
		"(do 1) %":                  "x (x) (do)",
	} {
		for _, w := range strings.Fields(wrong) {
			src := strings.Replace(place, "%", strings.ReplaceAll(w, "~", " "), 1)
			wantSyntax(t, src, at(1, 1+strings.Index(place, "%")))
		}
	}
}

// TestTheFirstOne: of several wrong things the first one is told.
func TestTheFirstOne(t *testing.T) {
	for src, want := range map[string]api.Pos{
		// what the tokens are, ahead of brackets; these ahead of trees
		") #": at(1, 3), "(do fn \"": at(1, 8), "((\n#": at(2, 1), "x)": at(1, 2), "(fn fn) (": at(1, 9), "(do fn": at(1, 1),
		// brackets that close none, or are too deep, ahead of those that aren't closed
		"(()": at(1, 1), "((": at(1, 1), "(do 1) (x (y) (": at(1, 8), "(do 1))(": at(1, 7), ")": at(1, 1), "(\n))\n)": at(2, 2),
		rep("(", 201): at(1, 201), rep("(", 200): at(1, 1), rep("(", 201) + rep(")", 300): at(1, 201), "())" + rep("(", 300): at(1, 3),
		rep("(", 200) + ")((": at(1, 203), "(do 1)\n" + rep("(", 201) + rep(")", 201): at(2, 201),
		// trees in the order in which they begin, by their own first trees
		"(do (let 1 (x) 3))": at(1, 5), "(do (let x (x) (y)))": at(1, 12), "(do (seq (seq (x)) _))": at(1, 15), "(do (seq (seq _) (x)))": at(1, 15),
		"(do (fn (x _ 1) (y)))": at(1, 5), "(do (fn (x) (y)))": at(1, 13), "(do _ 1)": at(1, 1), "(def 1 _)": at(1, 1), "(def x _)": at(1, 8),
		"(do (case _ 1))": at(1, 11), "(do (case 1 x (y)))": at(1, 13), "(do (case 1 (1.5 _) x))": at(1, 14), "(do (case 1 (_ _) x))": at(1, 16), "(do (case 1 (_ 1) x))": at(1, 19),
		"(do (case 1 (1.5 1 1)))": at(1, 13), "(do (_ _ _))": at(1, 6), "(do (_))": at(1, 5), "(do (f _ (x)))": at(1, 8), "(do (C 1 2 3 4 5 6 7 8 _))": at(1, 5),
		"(do (rec f (fn) _))": at(1, 12), "(do (rec f (fn 1 _) _))": at(1, 12), "(do (rec f (fn (x) _) _))": at(1, 20), "(do (rec f (fn (x) x) _))": at(1, 23),
		"(rec f (fn))": at(1, 8), "(rec f (fn (1) _))": at(1, 8), "(rec 1 (fn))": at(1, 1),
		"(root r (-> _ (int)) _)": at(1, 13), "(root r (-> int (int)) _)": at(1, 17), "(root r int _)": at(1, 13), "(root 1 (int) _)": at(1, 1), "(root r (int) _)": at(1, 9),
		"(data t (a) x)": at(1, 1), "(data t ('a) x (A _))": at(1, 14), "(data t ('a) (A _) x)": at(1, 17), "(data A () x)": at(1, 1), "(data t () (A (int) _))": at(1, 15),
		"(do 1) x (y)": at(1, 8), "(x) (do _)": at(1, 1), "(do _) x": at(1, 5), "(data t () (A)) (do 1 2)": at(1, 17),
		// a variable that stands twice
		"(do (case 1 ((tuple x x) 1)))": at(1, 14), "(do (case 1 ((tuple x (A (B y x))) 1)))": at(1, 14), "(do (case 1 ((A x x x) _) x))": at(1, 14),
		"(do (case 1 ((tuple x x 1.5) 1)))": at(1, 25), "(do (case 1 ((tuple x x (C)) 1)))": at(1, 25), "(do (case 1 ((A x x) 1 2)))": at(1, 13),
		"(do (case 1 ((A x y) _) ((A x x) 1)))": at(1, 22), "(do (case 1 ((A x x) (y)) ((A x x) 1)))": at(1, 14), "(do (case _ ((A x x) 1)))": at(1, 11),
		"(do (try 1 ((A x _) 1) ((A _ y y) 1)))": at(1, 25), "(do (case 1 ((tuple (A x) (A y) (A x)) 1)))": at(1, 14), "(do (case 1 (x (case 1 ((A x x) _)))))": at(1, 25),
	} {
		wantSyntax(t, src, want)
	}
	wantOK(t, "(do (case 1 ((tuple _ _ x (A _)) x) (x (case x (x x))) (\"x\" x) ((A \"x\" \"x\" 1 1) 1)))")
	for src, want := range map[string]api.Pos{rep(" ", 65537): {}, rep("(", 65537): {}, "#" + rep(")", 65536): {}} {
		if l, p, err := Program(src); err != api.ErrBig || p != want || l != nil {
			t.Errorf("%.10q: %v, %v, %v", src, l, p, err)
		}
	}
}

// TestHowDeep: 200 brackets within one another, and one more.
func TestHowDeep(t *testing.T) {
	for _, c := range []struct{ ahead, open, mid, close, behind string }{
		{"(do ", "(seq ", "1", ")", ")"}, {"(do ", "(f ", "1", ")", ")"}, {"(do ", "(f 1 ", "1", ")", ")"}, {"(do ", "(A ", "1", ")", ")"},
		{"(do ", "(let _ 1 ", "1", ")", ")"}, {"(do ", "(raise ", "x", ")", ")"}, {"(root r ", "(ref ", "t", ")", " 1)"}, {"(root r ", "(-> t ", "t", ")", " 1)"},
		{"(def x ", "(tuple 1 ", "x", ")", ")"}, {"(do ", "(if 1 2 ", "x", ")", ")"},
	} {
		for n := 198; n < 203; n++ {
			src := c.ahead + rep(c.open, n) + c.mid + rep(c.close, n) + c.behind
			if n <= 199 {
				wantOK(t, src)
			} else {
				wantSyntax(t, src, at(1, 1+len(c.ahead)+199*len(c.open)))
			}
		}
		src := c.ahead + rep(c.open, 198) + "()" + rep(c.close, 198) + c.behind
		if strings.HasPrefix(c.ahead, "(root") {
			wantSyntax(t, src, at(1, 1+len(c.ahead)+198*len(c.open)))
		} else {
			wantOK(t, src)
		}
		wantSyntax(t, c.ahead+rep(c.open, 199)+"()"+rep(c.close, 199)+c.behind, at(1, 1+len(c.ahead)+199*len(c.open)))
	}
	// a pattern stands in do, case, and its arm
	pattern := func(n int) string {
		return "(do (case 1 (" + rep("(A ", n) + "x" + rep(")", n) + " 1)))"
	}
	wantOK(t, pattern(197))
	wantSyntax(t, pattern(198), at(1, 14+197*3))
	wantOK(t, rep("(do "+rep("(raise ", 199)+"x"+rep(")", 200), 30))
}

// TestListsAreNew: no two lists of an answer share any, their spare room neither.
func TestListsAreNew(t *testing.T) {
	g := &maker{Rand: newRand(5)}
	for range 300 {
		src := g.program(5) + "(root r (-> a b c d e) (fn (x y z) x)) (data l ('a 'b 'c) (A) (B))"
		l, _, err := Program(src)
		if err != api.OK {
			// A pattern has a variable twice.
			continue
		}
		seen := map[*Node]struct{}{}
		var walk func(l []Node)
		walk = func(l []Node) {
			full := l[:cap(l)]
			for i := range full {
				if _, ok := seen[&full[i]]; ok {
					t.Fatal(src)
				}
				seen[&full[i]] = struct{}{}
			}
			for _, n := range l {
				walk(n.Kids)
			}
		}
		walk(l)
		spoil(l)
		if err := check(t, src); err != api.OK {
			t.Fatal(src, err)
		}
	}
}

// spoil changes all that is in the lists.
func spoil(l []Node) {
	for _, n := range l {
		spoil(n.Kids)
	}
	for i := range l[:cap(l)] {
		l[:cap(l)][i] = Node{Op: -1, Text: fmt.Sprint(i)}
	}
}

// TestOps: what a node is, as a number.
func TestOps(t *testing.T) {
	src := `(data t ('a) (A int))(root r int 1)(def x 1)(rec f (fn (x) x))
(do (seq 1 1.5 "a" () x C (fn (x) x) (f x) (let x 1 2) (rec f (fn (x) x) 1) (if 1 2 3) (seq 1) (tuple 1 2) (case 1 (1 2)) (try 1 (1 2)) (raise 1) (transact 1)
 (case 1 (_ 1) (x 1) (1 1) ("a" 1) (() 1) (C 1) ((tuple _ _) 1))))`
	l := wantOK(t, src)
	var got []int
	for _, n := range l {
		got = append(got, n.Op)
	}
	do := l[4].Kids[0]
	last := do.Kids[len(do.Kids)-1]
	for _, n := range do.Kids[:len(do.Kids)-1] {
		got = append(got, n.Op)
	}
	for _, n := range last.Kids[1:] {
		got = append(got, n.Op, n.Kids[0].Op)
	}
	got = append(got, l[0].Kids[0].Op, l[0].Kids[1].Op, l[1].Kids[0].Op)
	want := "[41 43 44 45 46 1 2 3 4 5 6 7 8 9 10 11 12 13 14 15 16 17 18 21 18 22 18 23 18 24 18 25 18 26 18 27 31 42 32]"
	if fmt.Sprint(got) != want {
		t.Errorf("%v, not %v", got, want)
	}
}
