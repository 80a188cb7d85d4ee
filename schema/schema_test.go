package schema

import (
	"fmt"
	"math/rand"
	"reflect"
	"slices"
	"strings"
	"testing"

	"scriptor/api"
	"scriptor/graph"
	"scriptor/parse"
)

func nodes(t *testing.T, src string) []parse.Node {
	t.Helper()
	l, at, err := parse.Program(src)
	if err != api.OK {
		t.Fatalf("%.200q: %v", src, at)
	}
	return l
}

func wantRoots(t *testing.T, src string, want ...Root) {
	t.Helper()
	got, at, err := Of(nodes(t, src)...)
	if err != api.OK || at != (api.Pos{}) || !slices.Equal(got, want) {
		t.Errorf("%.300s: %v, %v, %.300q, not %.300q", src, at, err, got, want)
	}
	check(t, src)
}

// wantWrong: the piece behind the mark @ is wrong.
func wantWrong(t *testing.T, src string, want api.Errno) {
	t.Helper()
	i := strings.Index(src, "@")
	src = strings.Replace(src, "@", "", 1)
	got, at, err := Of(nodes(t, src)...)
	if got != nil || at != (api.Pos{Line: 1, Col: i + 1}) || err != want {
		t.Errorf("%.300s: %v, %v, %v, not %v, %v", src, got, at, err, i+1, want)
	}
	check(t, src)
}

func TestRoots(t *testing.T) {
	wantRoots(t, "")
	wantRoots(t, "(def x 1) (do x) (data t () (A))")
	wantRoots(t, "(data list ('x) (Nil) (Cons 'x (list 'x))) (root r (list int) Nil)", Root{"r", "(list int)|list 'a=Nil,Cons 'a (list 'a)"})
	wantRoots(t, "(root r int 1) (def r 1) (root a string \"\") (root + (tuple int (pref (tuple unit bool exn float))) (raise Div))", Root{"r", "int"}, Root{"a", "string"}, Root{"+", "(tuple int (pref (tuple unit bool exn float)))"})
	wantRoots(t, "(data t ('z 'y 'x 'w 'v 'u 't 's) (A 's 't) (B (tuple 'x 'y 'z) (t 's 't 'u 'v 'w 'x 'y 'z) 'u 'v 'w)) (root r (t int float string unit bool exn int (pref int)) (raise Div))",
		Root{"r", "(t int float string unit bool exn int (pref int))|t 'a 'b 'c 'd 'e 'f 'g 'h=A 'h 'g,B (tuple 'c 'b 'a) (t 'h 'g 'f 'e 'd 'c 'b 'a) 'f 'e 'd"})
	// in the order in which they are met: a type ahead of its parts, and types ahead of those behind
	datas := "(data a () (A)) (data b ('a) (B 'a a)) (data c ('a 'b) (C (b 'b) 'a)) (data d () (D) (E (c a (b d)) (tuple d a)))"
	wantRoots(t, datas+"(root r d D)", Root{"r", "d|d=D,E (c a (b d)) (tuple d a)|c 'a 'b=C (b 'b) 'a|a=A|b 'a=B 'a a"})
	wantRoots(t, datas+"(root r a A)", Root{"r", "a|a=A"})
	wantRoots(t, datas+"(root r (tuple (pref (b int)) a d) (raise Div))", Root{"r", "(tuple (pref (b int)) a d)|b 'a=B 'a a|a=A|d=D,E (c a (b d)) (tuple d a)|c 'a 'b=C (b 'b) 'a"})
	wantRoots(t, datas+"(root r (c a (b a)) (raise Div)) (root s (b (b (b int))) (raise Div))", Root{"r", "(c a (b a))|c 'a 'b=C (b 'b) 'a|a=A|b 'a=B 'a a"}, Root{"s", "(b (b (b int)))|b 'a=B 'a a|a=A"})
	// a data type's argument that it doesn't have plays its part, too
	wantRoots(t, "(data a () (A)) (data p ('a) (P)) (root r (p (p a)) P)", Root{"r", "(p (p a))|p 'a=P|a=A"})
}

// TestNames: how variables are named is nothing; what else there is isn't.
func TestNames(t *testing.T) {
	of := func(data string) string {
		l, at, err := Of(nodes(t, data+"(root r (t int string) (raise Div))")...)
		if err != api.OK {
			t.Fatal(data, at)
		}
		return l[0].Type
	}
	first := of("(data t ('a 'b) (A 'a) (B 'b int))")
	for _, same := range []string{"(data t ('b 'a) (A 'b) (B 'a int))", "(data t ('int 't) (A 'int) (B 't int))", "(data u () (U))(data t ('x1 ''') (A 'x1) (B ''' int))(data v () (V (t u u)))"} {
		if got := of(same); got != first {
			t.Error(same, got, first)
		}
	}
	for _, other := range []string{"(data t ('a 'b) (B 'b int) (A 'a))", "(data t ('a 'b) (A 'b) (B 'a int))", "(data t ('a 'b) (A 'a) (B 'b))", "(data t ('a 'b) (A 'a) (B 'b string))", "(data t ('a 'b) (A 'a) (C 'b int))", "(data t ('a 'b) (A 'a))",
		"(data t ('a 'b) (A 'a) (B int 'b))", "(data t ('a 'b) (A 'a) (B 'b int) (C))", "(data t ('a 'b) (A 'a int) (B 'b))", "(data t ('a 'b) (A) (B 'b int))"} {
		if got := of(other); got == first {
			t.Error(other, got)
		}
	}
}

func TestNotToBeKept(t *testing.T) {
	for _, src := range []string{
		"(root r @(-> int int) neg)", "(root r @(ref int) (ref 1))", "(root r @(tuple int (ref int)) 1)", "(root r @(pref (-> int int int)) 1)", "(root r @(-> int int int int) 1)", "(root r int 1) (root s @(ref int) 1) (root t (-> int int) 1)",
		"(data t () (A) (B int (ref int))) (root r @t A)", "(data t () (A (-> t t))) (root r @(pref t) A)", "(data t () (A (tuple int (pref (ref int))))) (data u () (U t)) (data v ('a) (V 'a u)) (root x int 1) (root r @(v int) A)",
		"(data p ('a) (P)) (root r @(p (-> int int)) P)", "(data p ('a) (P)) (data q () (Q (p (ref int)))) (root r @q Q)", "(data a () (A (ref int))) (data p ('a) (P)) (root r @(p a) P)",
	} {
		wantWrong(t, src, api.ErrKeep)
	}
	wantRoots(t, "(data t () (T (ref int))) (data u ('a) (U (-> 'a 'a))) (root r int 1) (def x (ref 1))", Root{"r", "int"})
	wantRoots(t, "(data re () (Re)) (data -x () (Ref)) (data ->> () (R re -x)) (root r ->> (raise Div))", Root{"r", "->>|->>=R re -x|re=Re|-x=Ref"})
}

// TestThousandBytes: so many a text may have.
func TestThousandBytes(t *testing.T) {
	for n := 990; n < 1012; n++ {
		name := strings.Repeat("x", 1+n%30)
		src, size := "(data "+name+" ()", len(name)+len("|")+len(name)
		mark := 1
		for i := 0; size < n; i++ {
			con := fmt.Sprintf("C%d", i)
			if left := n - size - mark; left < 40 {
				con = "D" + strings.Repeat("y", left-1)
			} else {
				con += strings.Repeat("z", 20-len(con))
			}
			src += "(" + con + ")"
			size += mark + len(con)
		}
		src += ")"
		l := nodes(t, src+"(root r "+name+" (raise Div))")
		got, at, err := Of(l...)
		if n <= 1000 && (err != api.OK || len(got) != 1 || len(got[0].Type) != n) {
			t.Error(n, got, at, err)
		}
		if n > 1000 {
			wantWrong(t, src+"(root r @"+name+" (raise Div))", api.ErrBig)
		}
		check(t, src+"(root r "+name+" (raise Div))")
	}
	long := "(data t () (A" + strings.Repeat(" int", 8) + ")"
	for i := range 99 {
		long += fmt.Sprintf("(B%d int int)", i)
	}
	wantWrong(t, long+") (root r @t 1)", api.ErrBig)
	wantWrong(t, long+") (root r @(pref t) 1) (root s (ref int) 1)", api.ErrBig)
	wantWrong(t, long+") (root s @(ref int) 1) (root r t 1)", api.ErrKeep)
	// what can't be kept comes first, wherever it stands
	wantWrong(t, long+"(Z (ref int))) (root r @t 1)", api.ErrKeep)
	wantWrong(t, long+") (data u () (U (ref int))) (root r @(tuple t u) 1)", api.ErrKeep)
	wantWrong(t, long+"(Z (pref t))) (data u () (V t) (U int (-> int int))) (root r @u 1)", api.ErrKeep)
	wantRoots(t, long+") (root r int 1)", Root{"r", "int"})
}

// TestHundredRoots: the next one is too many, whatever its type is.
func TestHundredRoots(t *testing.T) {
	src := ""
	var want []Root
	for i := range api.MaxRoots {
		src += fmt.Sprintf("(root r%d int 1)", i)
		want = append(want, Root{fmt.Sprintf("r%d", i), "int"})
		if i%9 == 0 {
			src += "(do 1)"
		}
	}
	wantRoots(t, src, want...)
	wantWrong(t, src+"@(root s int 1)", api.ErrBig)
	wantWrong(t, src+"(do 1) @(root s (ref int) 1) (root t int 1)", api.ErrBig)
	wantWrong(t, "(root a @(ref int) 1)"+src+"(root s int 1)", api.ErrKeep)
	wantWrong(t, strings.Replace(src, "(root r99 int 1)", "(root r99 @(ref int) 1)", 1)+"(root s int 1)", api.ErrKeep)
}

func TestFits(t *testing.T) {
	root := func(s string) Root {
		name, text, _ := strings.Cut(s, ":")
		return Root{name, text}
	}
	for _, c := range []struct {
		have, want string
		err        api.Errno
	}{
		{"", "", api.OK}, {"a:int", "", api.OK}, {"", "a:int", api.OK}, {"a:int", "a:int", api.OK}, {"a:int", "b:string", api.OK}, {"a:int", "a:string", api.ErrSchema}, {"a:int", "a:", api.ErrSchema}, {"a:", "a:", api.OK}, {":", ":x", api.ErrSchema}, {":x", ":x", api.OK},
		{"a:int b:string", "b:string a:int", api.OK}, {"a:int b:string", "a:int b:int", api.ErrSchema}, {"a:int b:string", "b:int a:int", api.ErrSchema}, {"a:int b:string", "c:x d:y a:int", api.OK}, {"a:int b:string", "c:x d:y b:int", api.ErrSchema}, {"b:string a:int c:x", "a:Int", api.ErrSchema},
		{"a:int a:int", "a:int", api.OK}, {"a:int a:string", "a:int", api.ErrSchema}, {"a:int a:string", "a:string", api.ErrSchema}, {"a:int a:string a:int", "a:int", api.ErrSchema}, {"a:int b:x a:string", "b:x", api.OK}, {"a:int", "a:int a:string", api.ErrSchema}, {"a:int a:string", "b:int", api.OK}, {"A:int", "a:string", api.OK},
	} {
		var have []graph.Root
		var want []Root
		for i, s := range strings.Fields(c.have) {
			r := root(s)
			have = append(have, graph.Root{Name: r.Name, Type: r.Type, Id: i})
		}
		for _, s := range strings.Fields(c.want) {
			want = append(want, root(s))
		}
		before, wanted := slices.Clone(have), slices.Clone(want)
		if err := Fits(have, want...); err != c.err {
			t.Error(c, err)
		}
		if !slices.Equal(have, before) || !slices.Equal(want, wanted) {
			t.Error(c)
		}
	}
	var have []graph.Root
	var want []Root
	for i := range 200000 {
		have = append(have, graph.Root{Name: fmt.Sprint(i), Type: "t"})
		want = append(want, Root{fmt.Sprint(199999 - i), "t"})
	}
	if err := Fits(have, want...); err != api.OK {
		t.Error(err)
	}
	want[150000].Type = "u"
	if err := Fits(have, want...); err != api.ErrSchema {
		t.Error(err)
	}
}

// TestNodesOfNoProgram: whatever they are, it ends.
func TestNodesOfNoProgram(t *testing.T) {
	ops := []int{-1, 0, 1 << 40}
	for op := range 50 {
		ops = append(ops, op)
	}
	for _, op := range ops {
		within := make([]parse.Node, 3)
		for i := range within {
			within[i] = parse.Node{Op: op, Text: "x", Kids: within}
		}
		for _, n := range []parse.Node{{Op: op}, {Op: op, Text: "x"}, {Op: op, Text: "x", Kids: []parse.Node{{}}}, {Op: op, Text: "x", Kids: make([]parse.Node, 99)}, {Op: op, Text: "x", Kids: within}} {
			Of(n)
			Of(n, n, parse.Node{Op: parse.Root, Kids: []parse.Node{n}}, parse.Node{Op: parse.Data, Text: "x", Kids: []parse.Node{n, n}})
			Of(parse.Node{Op: parse.Data, Text: "x", Kids: within}, parse.Node{Op: parse.Root, Kids: []parse.Node{{Op: parse.TName, Text: "x"}}})
		}
	}
	for seed := range 3000 {
		g := rand.New(rand.NewSource(int64(seed)))
		var random func(deep int) parse.Node
		random = func(deep int) parse.Node {
			n := parse.Node{Op: []int{parse.TName, parse.TName, parse.TVar, parse.DCon, parse.Data, parse.Root, 0}[g.Intn(7)], Text: []string{"x", "t", "int", "'a", "ref"}[g.Intn(5)]}
			for range g.Intn(4) {
				if deep > 0 {
					n.Kids = append(n.Kids, random(deep-1))
				}
			}
			return n
		}
		Of(parse.Node{Op: parse.Data, Text: "t", Kids: []parse.Node{random(3), random(3)}}, parse.Node{Op: parse.Root, Kids: []parse.Node{random(4)}}, random(4))
	}
}

// TestProgramsThatDontFit: their types may be anything, but it ends.
func TestProgramsThatDontFit(t *testing.T) {
	for _, src := range []string{"(root r 'a 1)", "(root r foo 1)", "(root r (list 'a 'b) 1)", "(data t () (A 'x (t t))) (root r (t int) 1)", "(data t () (A)) (data t () (B)) (root r t 1)", "(root r t 1) (data t () (A))", "(data int () (A)) (root r int 1)", "(root r int 1) (root r string 1)"} {
		Of(nodes(t, src)...)
	}
}

func TestNothingIsChanged(t *testing.T) {
	for seed := range 200 {
		g := &maker{Rand: rand.New(rand.NewSource(int64(seed)))}
		src := g.program()
		l := nodes(t, src)
		got, at, err := Of(l...)
		if !reflect.DeepEqual(l, nodes(t, src)) {
			t.Fatal(src)
		}
		kept := slices.Clone(got)
		for i := range got[:cap(got)] {
			got[:cap(got)][i] = Root{"spoilt", "spoilt"}
		}
		again, at2, err2 := Of(l...)
		if !slices.Equal(kept, again) || at != at2 || err != err2 {
			t.Fatal(src)
		}
	}
}
