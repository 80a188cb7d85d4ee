package infer

import (
	"math/rand"
	"reflect"
	"slices"
	"strings"
	"testing"

	"scriptor/api"
	"scriptor/parse"
)

// sized is an expression whose type has n parts; sizedType is that type.
func sized(n int) string {
	return grown(n, "1", "(Cons 1 Nil)", "(tuple ")
}

func sizedType(n int) string {
	return grown(n, "int", "(list int)", "(tuple ")
}

func grown(n int, one, two, many string) string {
	switch n {
	case 1:
		return one
	case 2:
		return two
	}
	count := min(8, n-1)
	var parts []string
	for i, left := 0, n-1; i < count; i++ {
		part := left / (count - i)
		left -= part
		parts = append(parts, grown(part, one, two, many))
	}
	return many + strings.Join(parts, " ") + ")"
}

// patternOf is a pattern of so many parts.
func patternOf(n int) string { return grown(n, "1", "(Some 1)", "(tuple ") }

// bigFrom1001: the piece behind the mark is wrong, if n is more than 1000.
func bigFrom1001(t *testing.T, src string, n int) {
	t.Helper()
	if n > 1000 {
		wantWrong(t, datas+src, api.ErrBig)
		return
	}
	src = datas + strings.Replace(src, "@", "", 1)
	if _, at, err := Program(nodes(t, src)...); err != api.OK {
		t.Errorf("%d: %.300s: %v, %v", n, src, at, err)
	}
	check(t, src)
}

// TestThousandParts: of expressions and patterns; where there are more.
func TestThousandParts(t *testing.T) {
	for n := 995; n <= 1001; n++ {
		for _, src := range []string{
			"(do @" + sized(n) + ")", "(def x @" + sized(n) + ")", "(do (let _ @" + sized(n) + " 1))", "(do (seq 1 @" + sized(n) + " 2))", "(do (tuple (seq @" + sized(n) + " 1) 1))", "(do (case 1 (x @" + sized(n) + ")))",
			"(do (transact @" + sized(n) + "))", "(do (try @" + sized(n) + " (_ (raise Div))))", "(do (if True @" + sized(n) + " (raise Div)))",
		} {
			bigFrom1001(t, src, n)
		}
		for _, src := range []string{
			"(do @(fn (x) " + sized(n-2) + "))", "(do @(fn (x _) " + sized(n-4) + "))", "(do @(Some " + sized(n-1) + "))", "(do @(fn (x) (seq (+ x 1) " + sized(n-2) + ")))", "(rec f @(fn (x) " + sized(n-2) + "))",
			"(def x " + sized(n-2) + ") (do @(tuple x 1))", "(def f (fn (x) x)) (def y " + sized(n/2) + ") (do @(tuple y " + sized(n-1-n/2) + "))", "(do (let x (fn (y) y) @(tuple x " + sized(n-4) + ")))",
			"(do (case (raise Div) (@" + patternOf(n) + " 1)))", "(do (case (raise Div) (@(Some " + patternOf(n-1) + ") 1)))", "(do (case (raise Div) (@(tuple x " + patternOf(n-2) + ") 1)))", "(do @(fn (x) (case x (" + patternOf(n-2) + " 1))))",
			// where two become one
			"(do (seq ((fn (x) (tuple x 1)) @" + sized(n-2) + ") 1))", "(do (let f (fn (x) (tuple x " + sized(n/2-1) + ")) (f @" + sized(n-n/2) + ")))",
		} {
			bigFrom1001(t, src, n)
		}
		bigFrom1001(t, "(def f (fn (x) (tuple x x))) (do (f @"+sized(n/2)+"))", 2*(n/2)+1)
		fn := "(fn (x) (let _ (f " + sized(500) + ") " + sized(n-501) + "))"
		bigFrom1001(t, "@(rec f "+fn+")", n)
		bigFrom1001(t, "(do @(rec f "+fn+" 1))", n)
	}
}

// TestThousandPartsAtLast: what is bound has no more, with all that was found out.
func TestThousandPartsAtLast(t *testing.T) {
	for n := 990; n <= 1000; n++ {
		for src, parts := range map[string]int{
			"(root r " + sizedType(n) + " (raise Div))": n + 1, "(do 1) (root r " + sizedType(n) + " " + sized(n) + ") (do 1)": n + 1,
			"(def x (ref (raise Div))) (do (set x " + sized(n) + "))": n + 1, "(def x (ref (raise Div))) (def y 1) (do (seq (set x (tuple Nil Nil)) (set x (tuple Nil (Cons " + sized(n-10) + " Nil)))))": n - 5,
			"(def y (fn (x) x)) (def x (tuple (raise Div) 1)) (def z (fn (u) x)) (do (case x ((tuple u _) (if True u " + sized(n-4) + "))))": n,
		} {
			if parts <= 1000 {
				if _, at, err := Program(nodes(t, datas+src)...); err != api.OK || at != (api.Pos{}) {
					t.Errorf("%d: %.200s: %v, %v", n, src, at, err)
				}
				check(t, datas+src)
			} else {
				wantAt(t, datas+src, api.Pos{}, api.ErrBig)
			}
		}
	}
	// an error behind comes first
	wantWrong(t, datas+"(root r "+sizedType(1000)+" (raise Div)) (do @foo)", api.ErrType)
	// a name's type is asked for, where it stands
	wantWrong(t, datas+"(root r "+sizedType(1000)+" (raise Div)) (do @r)", api.ErrBig)
	wantWrong(t, datas+"(def x (ref (raise Div))) (do (set x "+sized(1000)+")) (do (seq 1 @x))", api.ErrBig)
}

// TestTypesOfManyParts: a constructor's type, or a root's, may have more; no expression fits then.
func TestTypesOfManyParts(t *testing.T) {
	many := "(->" + strings.Repeat(" int", 12000) + ")"
	wantTypes(t, "(data t () (A) (B "+many+")) (do A) (def f (fn (x) (case x (A 1))))", "=t", "f=(-> t int)")
	wantWrong(t, "(data t () (A) (B "+many+")) (do (B @(raise Div)))", api.ErrBig)
	wantWrong(t, "(data t () (A) (B "+many+")) (do (B @1))", api.ErrType)
	wantWrong(t, "(data t () (A) (B "+many+")) (do (case A ((B @_) 1)))", api.ErrBig)
	wantWrong(t, "(data t () (A) (B "+many+")) (do (B @(fn (x) x)))", api.ErrType)
	wantWrong(t, "@(root r "+many+" (raise Div))", api.ErrBig)
	wantWrong(t, "@(root r "+many+" 1)", api.ErrType)
	wantWrong(t, "@(root r "+many+" (fn (x) (raise Div)))", api.ErrBig)
}

// TestTooManyDontCount: variables of a name whose type has more than a thousand parts may be for all types.
func TestTooManyDontCount(t *testing.T) {
	for n := 990; n <= 1000; n++ {
		for _, g := range []string{"(fn (u) (h u))", "h"} {
			// The type of x is a tuple of p's and q's; q's has n parts, once k is asked for.
			src := datas + "(do (case (raise Div) (x (let h (fn (u) (case x ((tuple p q) p))) (let k (fn (u) (case x ((tuple p q) q))) %(seq (if True (k 1) " + sized(n) +
				") (let g " + g + " (tuple (+ (g 1) 1) (cat @(g 1) \"a\"))))%)))))"
			alone := strings.ReplaceAll(src, "%", "")
			// Another name further inside has the variable of p's, too.
			also := strings.Replace(strings.Replace(src, "%", "(case (ref (h 1)) (y ", 1), "%", "))", 1)
			wantWrong(t, also, api.ErrType)
			if n <= 998 {
				wantWrong(t, alone, api.ErrType)
			} else if b, at, err := Program(nodes(t, strings.Replace(alone, "@", "", 1))...); err != api.OK || b[0].Type != "(tuple int string)" {
				t.Error(n, b, at, err)
			}
		}
	}
}

// TestLongPrograms: many pieces, names and uses.
func TestLongPrograms(t *testing.T) {
	fill := func(ahead, one, behind string) string {
		return ahead + strings.Repeat(one, (api.MaxText-len(ahead)-len(behind))/len(one)) + behind
	}
	for _, src := range []string{
		fill("(do (fn (s) (case s ", "(x s)", ")))"), fill("(do (case 1 ", "(x (raise Div))", "))"), fill("", "(def x (fn (x) x))", ""), fill(datas, "(def x (ref None))(def y (fn (x) x))", ""),
		// many names with great types, whose variables aren't for all types
		fill("(def a (raise Div))"+strings.Repeat("(def a (seq (tuple a a)))", 8)+strings.Repeat("(def c (seq a))", 1800), "(def y (fn (x) x))", ""),
		fill("(do (case (raise Div) (a "+strings.Repeat("(let a (seq (tuple a a)) ", 8)+strings.Repeat("(let c (seq a) ", 150)+"(seq ", "(let y (fn (x) x) 1)", strings.Repeat(")", 162)),
		fill("(do (seq ", "get ", "))"), fill("(do (seq ", "(let x (fn (x) x) 1)", "))"), "(data t () (A (->" + strings.Repeat(" (-> t int t)", 4000) + "))) (do 1)",
	} {
		if _, at, err := Program(nodes(t, src)...); err != api.OK {
			t.Errorf("%.40s: %v, %v", src, at, err)
		}
	}
	deep := "(do " + strings.Repeat("(fn (x) ", 198) + "x" + strings.Repeat(")", 199)
	if _, at, err := Program(nodes(t, deep)...); err != api.OK {
		t.Error(at, err)
	}
	deep = "(do (case (raise Div) (" + strings.Repeat("(Some ", 197) + "x" + strings.Repeat(")", 197) + " x)))"
	if _, at, err := Program(nodes(t, datas+deep)...); err != api.OK {
		t.Error(at, err)
	}
}

// TestNodesOfNoProgram: whatever they are, it ends.
func TestNodesOfNoProgram(t *testing.T) {
	ops := []int{-1, 0, 19, 20, 28, 33, 40, 47, 1 << 40}
	for op := range 50 {
		ops = append(ops, op)
	}
	within := make([]parse.Node, 3)
	for _, op := range ops {
		for _, n := range []parse.Node{{Op: op}, {Op: op, Text: "x"}, {Op: op, Text: "x", Kids: []parse.Node{{}}}, {Op: op, Kids: make([]parse.Node, 9)}} {
			for _, outer := range ops {
				Program(n, parse.Node{Op: outer, Text: "y", Kids: []parse.Node{n, n, n}}, parse.Node{Op: parse.Do, Kids: []parse.Node{{Op: outer, Kids: []parse.Node{n, n}}}})
				Program(parse.Node{Op: parse.Do, Kids: []parse.Node{{Op: outer, Kids: []parse.Node{{Op: parse.Int}, n}}}})
				Program(parse.Node{Op: parse.Do, Kids: []parse.Node{{Op: outer, Text: "x", Kids: []parse.Node{{Op: parse.Unit}, {Op: parse.Arm, Kids: []parse.Node{n}}}}}})
				Cons(n, parse.Node{Op: outer, Kids: []parse.Node{n}})
			}
		}
		for i := range within {
			within[i] = parse.Node{Op: op, Text: "x", Kids: within}
		}
		Program(within...)
		Program(parse.Node{Op: parse.Do, Kids: within}, parse.Node{Op: parse.Def, Kids: within}, parse.Node{Op: parse.DefRec, Kids: within})
		Program(parse.Node{Op: parse.Data, Kids: within})
		Program(parse.Node{Op: parse.Data, Kids: []parse.Node{{Op: parse.DCon, Kids: within}}})
		Program(parse.Node{Op: parse.Root, Kids: within})
		Cons(within...)
	}
	for seed := range 3000 {
		g := rand.New(rand.NewSource(int64(seed)))
		var random func(deep int) parse.Node
		random = func(deep int) parse.Node {
			n := parse.Node{Op: ops[g.Intn(len(ops))], Text: []string{"x", "_", "int", "'a", "True", "Cons", "->"}[g.Intn(7)]}
			for range g.Intn(4) {
				if deep > 0 {
					n.Kids = append(n.Kids, random(deep-1))
				}
			}
			return n
		}
		Program(nodes(t, datas+"(def x 1)")[g.Intn(3)], parse.Node{Op: parse.Do, Kids: []parse.Node{random(5)}}, random(5))
		Program(parse.Node{Op: parse.Do, Kids: []parse.Node{random(5)}}, random(5))
	}
	// types within themselves; and nodes that many others share, each in all of the next one
	for i := range within {
		within[i] = parse.Node{Op: parse.TName, Text: "tuple", Kids: within}
	}
	Program(parse.Node{Op: parse.Root, Kids: within})
	Program(parse.Node{Op: parse.Data, Kids: []parse.Node{{Op: parse.DCon, Kids: within}}})
	shared, sharedType := parse.Node{Op: parse.Int}, parse.Node{Op: parse.TName, Text: "int"}
	for range 100 {
		shared = parse.Node{Op: parse.Seq, Kids: []parse.Node{shared, shared}}
		sharedType = parse.Node{Op: parse.TName, Text: "tuple", Kids: []parse.Node{sharedType, sharedType}}
	}
	Program(parse.Node{Op: parse.Do, Kids: []parse.Node{shared}})
	Program(parse.Node{Op: parse.Root, Kids: []parse.Node{sharedType, shared}})
	Program(parse.Node{Op: parse.Data, Kids: []parse.Node{{Op: parse.DCon, Kids: []parse.Node{sharedType}}}})
	// functions, each of which is in the next one, and binds a name: without an end
	lets := make([]parse.Node, 2)
	fn := parse.Node{Op: parse.Fn, Kids: []parse.Node{{Op: parse.PVar, Text: "x"}, {Op: parse.Let, Text: "y", Kids: lets}}}
	lets[0], lets[1] = parse.Node{Op: parse.Fn, Kids: []parse.Node{{Op: parse.PVar, Text: "x"}, {Op: parse.Var, Text: "x"}}}, fn
	if _, _, err := Program(parse.Node{Op: parse.Do, Kids: []parse.Node{fn}}); err != api.ErrType {
		t.Error(err)
	}
}

// TestNothingIsChanged: the nodes are as they were; and an answer hangs on them alone.
func TestNothingIsChanged(t *testing.T) {
	for seed := range 200 {
		g := maker{rand.New(rand.NewSource(int64(seed)))}
		src := datas
		for range 5 {
			piece := g.top()
			if _, _, err := parse.Program(src + piece); err == api.OK {
				src += piece
			}
		}
		l := nodes(t, src)
		first, at, err := Program(l...)
		cons := Cons(l...)
		if !reflect.DeepEqual(l, nodes(t, src)) {
			t.Fatal(src)
		}
		again, at2, err2 := Program(l...)
		if !slices.Equal(first, again) || at != at2 || err != err2 || !slices.Equal(cons, Cons(l...)) {
			t.Fatal(src)
		}
	}
}
