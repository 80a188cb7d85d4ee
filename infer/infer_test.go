package infer

import (
	"fmt"
	"slices"
	"strings"
	"testing"

	"scriptor/api"
	"scriptor/kind"
	"scriptor/parse"
)

func nodes(t *testing.T, src string) []parse.Node {
	t.Helper()
	l, at, err := parse.Program(src)
	if err != api.OK {
		t.Fatalf("%.200q: %v", src, at)
	}
	return l
}

// wantTypes: these are what the program's pieces are bound to, with an = between a name and its type.
func wantTypes(t *testing.T, src string, want ...string) {
	t.Helper()
	got, at, err := Program(nodes(t, src)...)
	var said []string
	for _, b := range got {
		said = append(said, b.Name+"="+b.Type)
	}
	if err != api.OK || at != (api.Pos{}) || !slices.Equal(said, want) {
		t.Errorf("%.300s: %v, %v, %.300q, not %.300q", src, at, err, said, want)
	}
	check(t, src)
}

// wantWrong: the piece behind the mark @ is wrong.
func wantWrong(t *testing.T, src string, want api.Errno) {
	t.Helper()
	i := strings.Index(src, "@")
	at := api.Pos{Line: 1 + strings.Count(src[:i], "\n"), Col: i - strings.LastIndex(src[:i], "\n")}
	wantAt(t, strings.Replace(src, "@", "", 1), at, want)
}

func wantAt(t *testing.T, src string, want api.Pos, wantErr api.Errno) {
	t.Helper()
	got, at, err := Program(nodes(t, src)...)
	if got != nil || at != want || err != wantErr {
		t.Errorf("%.300s: %v, %v, %v, not %v, %v", src, got, at, err, want, wantErr)
	}
	check(t, src)
}

func TestPrims(t *testing.T) {
	want := allAhead()
	got := Prims()
	if len(got) != 40 || len(want) != 40 {
		t.Fatal(len(got), len(want))
	}
	for i, p := range got {
		w := want[i]
		if p.Name != w.name || p.Args != w.args || kind.Show(p.Type) != w.text {
			t.Errorf("%+v, not %+v", p, w)
		}
		vars := kind.Vars(p.Type)
		if strings.Contains(w.text, "'a") && !slices.Equal(vars, []int{1}) || !strings.Contains(w.text, "'a") && vars != nil {
			t.Errorf("%+v: %v", p, vars)
		}
		wantTypes(t, "(def it "+p.Name+")", "it="+w.text)
	}
	var walk func(l []kind.Type)
	seen := map[*kind.Type]struct{}{}
	walk = func(l []kind.Type) {
		for i := range l[:cap(l)] {
			x := &l[:cap(l)][i]
			if _, ok := seen[x]; ok {
				t.Fatal("a list stands twice in an answer")
			}
			seen[x] = struct{}{}
		}
		for i := range l {
			walk(l[i].Kids)
			l[i] = kind.Con("spoilt")
		}
	}
	for _, p := range got {
		walk(p.Type.Kids)
	}
	for i, p := range Prims() {
		if kind.Show(p.Type) != want[i].text {
			t.Error(p)
		}
	}
}

func TestCons(t *testing.T) {
	first := "[{False bool 0 0} {True bool 1 0} {Div exn 0 0} {Match exn 1 0} {Abort exn 2 0} {Keep exn 3 0} {Out exn 4 0} {Fail exn 5 1}"
	for src, want := range map[string]string{
		"": "", "(def x 1)(do 1)(root r int 1)": "", datas: " {Nil list 0 0} {Cons list 1 2} {None opt 0 0} {Some opt 1 1} {Both both 0 2}",
		"(data t ('a 'b 'c) (C (-> int int)) (A) (B 'b (t int) x int 'a float s 'c))":                                        " {C t 0 1} {A t 1 0} {B t 2 8}",
		"(do 1)(data b () (B))(def x y)(data a () (A))":                                                                      " {B b 0 0} {A a 0 0}",
		"(data t () (A))(data t () (A) (A int))(data int () (Div))":                                                          " {A t 0 0} {A t 0 0} {A t 1 1} {Div int 0 0}",
		"(data t () " + strings.Repeat("(A int)", 3) + ")(do (case 1 ((Foo x) 1)))(data t ('a 'b 'c 'd 'e 'f 'g 'h) (Z 'a))": " {A t 0 1} {A t 1 1} {A t 2 1} {Z t 0 1}",
	} {
		l, _, _ := parse.Program(src)
		if got := fmt.Sprint(Cons(l...)); got != first+want+"]" {
			t.Errorf("%s: %v, not %v", src, got, want)
		}
	}
	l := nodes(t, datas)
	got := Cons(l...)
	for i := range got {
		got[i] = Con{}
	}
	if got := Cons(l...); got[8] != (Con{"Nil", "list", 0, 0}) {
		t.Error(got)
	}
}

func TestNothing(t *testing.T) {
	wantTypes(t, "")
	wantTypes(t, datas)
	if got, _, _ := Program(); got != nil {
		t.Error(got)
	}
}

// TestTypes: each row of the table, and what stands around.
func TestTypes(t *testing.T) {
	for e, want := range map[string]string{
		"1": "int", "1.5": "float", `"a"`: "string", "()": "unit", "nan": "float", "get": "(-> (ref 'a) 'a)",
		"True": "bool", "Div": "exn", `(Fail "a")`: "exn", "Nil": "(list 'a)", "None": "(opt 'a)", "(Some 1)": "(opt int)", "(Cons 1 Nil)": "(list int)",
		"(Both 1 \"a\")": "(both string int)", "(fn (x y) (Both x y))": "(-> 'a (-> 'b (both 'b 'a)))", "(Cons Nil (Cons (Cons () Nil) Nil))": "(list (list unit))",
		"(fn (x) x)": "(-> 'a 'a)", "(fn (_) 1)": "(-> 'a int)", "(fn (_ _ x) x)": "(-> 'a (-> 'b (-> 'c 'c)))", "(fn (x x) (tuple x (+ x 1)))": "(-> 'a (-> int (tuple int int)))",
		"(fn (a b c d e f g h) (tuple h g f e d c b a))": "(-> 'a (-> 'b (-> 'c (-> 'd (-> 'e (-> 'f (-> 'g (-> 'h (tuple 'h 'g 'f 'e 'd 'c 'b 'a)))))))))",
		"(+ 1)": "(-> int int)", "(+ 1 2)": "int", "((fn (f) (f 1 2)) +)": "int", "(fn (f) (f 1 \"a\"))": "(-> (-> int (-> string 'a)) 'a)", "(fn (f x y) (f x y))": "(-> (-> 'a (-> 'b 'c)) (-> 'a (-> 'b 'c)))",
		"(let x 1 x)": "int", "(let _ 1 \"a\")": "string", "(let x 1 (let x \"a\" x))": "string", "(let x (fn (x) x) (tuple (x 1) (x \"a\")))": "(tuple int string)", "(let + cat (+ \"a\"))": "(-> string string)",
		"(rec f (fn (x) (f x)) f)": "(-> 'a 'b)", "(rec f (fn (x y) (f y x)) f)": "(-> 'a (-> 'a 'b))", "(rec f (fn (x) (if (= x 0) 1 (* x (f (- x 1))))) (f 5))": "int", "(rec f (fn (x) x) (tuple (f 1) (f \"a\")))": "(tuple int string)",
		"(rec f (fn (f) (f 1)) f)": "(-> (-> int 'a) 'a)",
		"(if True 1 2)":            "int", "(fn (x y) (if x y 1))": "(-> bool (-> int int))", "(fn (x y) (if x (raise Div) y))": "(-> bool (-> 'a 'a))",
		"(seq 1)": "int", "(seq 1 \"a\")": "string", "(seq 1 2 (fn (x) x))": "(-> 'a 'a)", "(tuple 1 \"a\")": "(tuple int string)", "(tuple 1 2 3 4 5 6 7 (fn (x) x))": "(tuple int int int int int int int (-> 'a 'a))",
		"(case 1 (x x))": "int", "(case 1 (1 \"a\") (_ \"b\"))": "string", "(fn (x) (case x (_ x)))": "(-> 'a 'a)", "(fn (x) (case x (\"a\" x)))": "(-> string string)", "(fn (x) (case x (() 1)))": "(-> unit int)",
		"(fn (x) (case x ((tuple y z) (y z))))": "(-> (tuple (-> 'a 'b) 'a) 'b)", "(fn (x) (case x (Nil None) ((Cons y _) (Some y))))": "(-> (list 'a) (opt 'a))", "(fn (x) (case x ((Cons 1 (Cons y z)) z)))": "(-> (list int) (list int))",
		"(fn (x) (case x ((Both _ y) y)))": "(-> (both 'a 'b) 'a)", "(fn (x) (case x ((Fail y) y) (Div \"\")))": "(-> exn string)", "(fn (x) (case x (1 (raise Div)) (y x)))": "(-> int int)", "(fn (x) (case x (True 1)))": "(-> bool int)",
		"(case Nil ((Cons x y) (tuple x y)))": "(tuple 'a (list 'a))", "(fn (x y) (case x (y y)))": "(-> 'a (-> 'b 'a))",
		"(try 1 (_ 2))": "int", "(try \"a\" ((Fail x) x) (Div \"\"))": "string", "(fn (x) (try x (Div (raise Match)) (e (raise e))))": "(-> 'a 'a)", "(try (raise Div) (_ 1))": "int",
		"(raise Div)": "'a", "(fn (x) (raise x))": "(-> exn 'a)", "(transact 1)": "int", "(transact (fn (x) x))": "(-> 'a 'a)",
		"(ref Nil)": "(ref (list 'a))", "(new 1)": "(pref int)", "(get (ref 1))": "int", "(set (ref None) None)": "unit", "(fn (x) (store x (load x)))": "(-> (pref 'a) unit)",
		"(read ())": "string", "(sub \"a\" 1)": "(-> int string)", "(fn (f g x) (f (g x)))": "(-> (-> 'a 'b) (-> (-> 'c 'a) (-> 'c 'b)))", "(fn (x y z) ((x z) (y z)))": "(-> (-> 'a (-> 'b 'c)) (-> (-> 'a 'b) (-> 'a 'c)))",
	} {
		wantTypes(t, datas+"(def it "+e+")", "it="+want)
		wantTypes(t, datas+"(do "+e+")", "="+want)
		wantTypes(t, datas+"(do 1)(rec it (fn (z) (let it 1 "+e+")))", "=int", "it="+kindOf("->", "'z", want))
	}
}

// kindOf is a function's type, as a text, whose variables are named anew.
func kindOf(name, of, to string) string {
	s := parseType("(" + name + " " + of + " " + to + ")")
	called := map[string]kind.Type{}
	var walk func(n parse.Node) kind.Type
	walk = func(n parse.Node) kind.Type {
		if n.Op == parse.TVar {
			if _, ok := called[n.Text]; !ok {
				called[n.Text] = kind.Var(len(called))
			}
			return called[n.Text]
		}
		var kids []kind.Type
		for _, k := range n.Kids {
			kids = append(kids, walk(k))
		}
		return kind.Con(n.Text, kids...)
	}
	return kind.Show(walk(s))
}

// TestPrograms: pieces of a program know those ahead.
func TestPrograms(t *testing.T) {
	wantTypes(t, "(def id (fn (x) x)) (def a (id 1)) (def b (id id)) (do (id \"a\"))", "id=(-> 'a 'a)", "a=int", "b=(-> 'a 'a)", "=string")
	wantTypes(t, "(def x 1) (def x \"a\") (def y x) (def + cat) (do (+ y x))", "x=int", "x=string", "y=string", "+=(-> string (-> string string))", "=string")
	wantTypes(t, "(rec f (fn (x) (f x))) (rec f (fn (x) (+ x (f x)))) (do f)", "f=(-> 'a 'b)", "f=(-> int int)", "=(-> int int)")
	wantTypes(t, "(def f (fn (x) x)) (def f (fn (x) (f 1)))", "f=(-> 'a 'a)", "f=(-> 'a int)")
	wantTypes(t, "(def r (ref 1))", "r=(ref int)")
	wantTypes(t, "(def x (ref (fn (y) y))) (do (seq (set x (fn (z) (+ z 1))) 1))", "x=(ref (-> int int))", "=int")
	wantTypes(t, datas+"(def x (ref Nil)) (def y x) (def f (fn (z) (set x z))) (do 1) (do (f (Cons 1.5 Nil)))", "x=(ref (list float))", "y=(ref (list float))", "f=(-> (list float) unit)", "=int", "=unit")
	wantTypes(t, datas+"(root r int 1) (root s (list (pref int)) (Cons r Nil)) (def r 2) (root t (tuple int (list (pref int))) (tuple r (load s)))", "r=(pref int)", "s=(pref (list (pref int)))", "r=int", "t=(pref (tuple int (list (pref int))))")
	wantTypes(t, datas+"(def x (ref Nil)) (root r (list int) (get x)) (do x)", "x=(ref (list int))", "r=(pref (list int))", "=(ref (list int))")
	wantTypes(t, "(root r (-> int int int) +) (root s (ref exn) (ref Div)) (root u (tuple unit bool string float) (raise Match)) (do (load r))", "r=(pref (-> int (-> int int)))", "s=(pref (ref exn))", "u=(pref (tuple unit bool string float))", "=(-> int (-> int int))")
	wantTypes(t, "(data t () (A)) (data u ('a) (B 'a t (u 'a)) (C (-> 'a (u (u 'a))) (ref 'a) (pref t) (tuple int float string unit bool exn 'a t))) (def f (fn (x) (case x ((B y _ _) y) ((C f _ _ (tuple _ _ _ _ _ _ y _)) y))))", "f=(-> (u 'a) 'a)")
	wantTypes(t, "(data list ('list) (Nil)) (def list Nil)", "list=(list 'a)")
	wantTypes(t, "(data p ('a 'b 'c 'd 'e 'f 'g 'h) (P 'h 'g 'f 'e 'd 'c 'b 'a)) (def p (P 1 1.5 \"a\" () True Div nan (fn (x) x)))", "p=(p (-> 'a 'a) float exn bool unit string float int)")
}

// TestValues: which ones are for all types.
func TestValues(t *testing.T) {
	values := []string{"(fn (x) x)", "(fn (x) (raise x))", "get", "Nil", "None", "(Some Nil)", "(Cons (fn (x) x) Nil)", "(tuple Nil 1 1.5 \"a\" () get)", "(Both Nil (tuple None Div))", "(tuple (Some (Both 1 Nil)) 1)"}
	others := []string{"(ref Nil)", "(new None)", "(let x 1 Nil)", "(seq Nil)", "(if True Nil Nil)", "(case 1 (_ Nil))", "(try Nil (_ Nil))", "(transact Nil)", "(raise Div)", "((fn (x) x) Nil)", "(rec f (fn (x) x) f)", "(rec f (fn (x) x) Nil)",
		"(Some (seq Nil))", "(tuple 1 (ref Nil))", "(Cons Nil (transact Nil))", "(tuple 1 (tuple 2 (Some (raise Div))))", "(tuple (let x 1 x) Nil)", "(cat \"\" (raise Div))"}
	for i, e := range slices.Concat(values, others) {
		own, _, _ := Program(nodes(t, datas+"(def x "+e+")")...)
		free := strings.Count(own[0].Type, "'a") > 0
		uses := "(let a (case (raise Div) (a (if True a x))) (let b (case (raise Div) (b (if True b x))) (tuple a b)))"
		b, _, err := Program(nodes(t, datas+"(def x "+e+") (do "+uses+")")...)
		if err != api.OK {
			t.Error(e, err)
			continue
		}
		// Those for all types have variables of their own in each place.
		two := strings.Contains(b[1].Type, "'b")
		if free && two != (i < len(values)) {
			t.Error(e, b)
		}
		again, _, err := Program(nodes(t, datas+"(do (let x "+e+" "+uses+"))")...)
		if err != api.OK || again[0].Type != b[1].Type {
			t.Error(e, b, again)
		}
	}
}

// TestBoundAround: variables of what is bound without "for all types" stay one type's.
func TestBoundAround(t *testing.T) {
	wantTypes(t, "(def f (fn (x) (let y x y)))", "f=(-> 'a 'a)")
	wantTypes(t, "(def f (fn (x) (let y (fn (z) x) (tuple (y 1) (y \"a\")))))", "f=(-> 'a (tuple 'a 'a))")
	wantTypes(t, "(def f (fn (x) (let y (fn (z) (tuple x z)) (tuple (y 1) (y \"a\")))))", "f=(-> 'a (tuple (tuple 'a int) (tuple 'a string)))")
	wantWrong(t, "(def f (fn (x) (let y x (tuple (+ y 1) (cat @y \"a\")))))", api.ErrType)
	wantWrong(t, "(def f (fn (x) (let y (fn (_) x) (tuple (+ (y 1) 1) (cat @(y 1) \"a\")))))", api.ErrType)
	wantWrong(t, "(do (case (raise Div) (x (let y (fn (_) x) (tuple (+ (y 1) 1) (cat @(y 1) \"a\"))))))", api.ErrType)
	wantWrong(t, "(do (let x (ref (raise Div)) (let y (fn (_) (get x)) (tuple (+ (y 1) 1) (cat @(y 1) \"a\")))))", api.ErrType)
	wantWrong(t, "(def x (ref (raise Div))) (def y (fn (_) (get x))) (do (tuple (+ (y 1) 1) (cat @(y 1) \"a\")))", api.ErrType)
	wantWrong(t, "(rec f (fn (x) (tuple (+ (f 1) 1) (cat @(f 1) \"a\"))))", api.ErrType)
	wantWrong(t, "(do (rec f (fn (x) (let y f (seq (+ (y 1) 1) (cat @(y 1) \"a\")))) 1))", api.ErrType)
	// hidden by another one of its name: it is bound still
	wantWrong(t, "(def f (fn (x) (let x (fn (y) x) (let z (fn (w) (x 1)) (tuple (+ (z 1) 1) (cat @(z 1) \"a\"))))))", api.ErrType)
	wantWrong(t, "(def x (ref (raise Div))) (def y (fn (_) (get x))) (def x 1) (def z (fn (_) (y 1))) (do (tuple (+ (z 1) 1) (cat @(z 1) \"a\")))", api.ErrType)
	// what isn't around any more
	wantTypes(t, "(do (seq (fn (x) (+ x 1)) (let y (fn (x) x) (tuple (y 1) (y \"a\")))))", "=(tuple int string)")
	wantWrong(t, "(do (seq (let x 1 x) @x))", api.ErrType)
	wantWrong(t, "(do (seq (fn (x) x) @x))", api.ErrType)
	wantWrong(t, "(do (seq (rec f (fn (x) x) f) @f))", api.ErrType)
	wantWrong(t, "(do (case 1 (1 @y) (y 1)))", api.ErrType)
	wantWrong(t, "(do (case 1 (y 1) (1 @y)))", api.ErrType)
	wantWrong(t, "(do (tuple (try 1 (y 1)) @y))", api.ErrType)
	wantWrong(t, "(do (seq (let print 1 print) (let print 2 print) (print @1)))", api.ErrType)
	for _, a := range allAhead() {
		wantTypes(t, "(do (seq (let "+a.name+" 1 "+a.name+") (fn ("+a.name+") 1) "+a.name+"))", "="+a.text)
	}
	wantWrong(t, "(do (let f (fn (x) (@f x)) f))", api.ErrType)
	wantWrong(t, "(def x @x)", api.ErrType)
	wantWrong(t, "(do @x) (def x 1)", api.ErrType)
	wantWrong(t, "(root x int (load @x))", api.ErrType)
}

// TestWrong: each thing that is asked for, and where.
func TestWrong(t *testing.T) {
	for _, e := range []string{
		"@x", "@foo", "(+ @x 1)", "@Foo", "(+ 1 @(Foo x))", "@Cons", "@(Cons 1)", "@(Nil 1)", "@(Cons 1 Nil 2)", "@(Div 1)", "@Fail", "@(Cons x)", "(Cons @x y)", "(Cons 1 @x)",
		"(Cons 1 @2)", "(Cons 1 @(Cons \"a\" Nil))", "(Cons \"a\" (Cons @x 1))", "(Fail @1)", "(Cons 1 @(Some 1))",
		"(fn (x) @y)", "(fn (x) (x @x))", "(fn (_) @_x)", "(fn (x) (+ x @(itoa x)))",
		"(@x 1)", "(1 @2)", "(\"a\" @x)", "(1 @2 x)", "(itoa 1 @2)", "(itoa 1 @2 x)", "(+ @\"a\" \"b\")", "(+ 1 @\"b\" x)", "((fn (x) (+ x 1)) @\"\")", "(+ @1.5 2)", "(cat (itoa @x) y)", "(get @1)", "(get @(new 1))", "(load @(ref 1))", "(set (ref 1) @\"a\")",
		"(f+ @1 2.0)", "(itof @1.5)", "(print @1)", "(read @1)", "(fbits @1)", "(sub \"a\" @\"a\")", "(sub \"a\" 1 @())",
		"(let x @y z)", "(let x 1 @y)", "(let x @x x)", "(let _ @y z)", "(let _ 1 @y)", "(let x 1 (cat @x \"a\"))",
		"(rec f (fn (x) @y) z)", "(rec f (fn (x) x) @y)", "@(rec f (fn (x) f) z)", "(rec f (fn (x) (+ (f x) (f 1.5))) @z)", "@(rec f (fn (x) (+ x (f 1.5))) z)", "@(rec f (fn (x) (seq (f 1 2) 1)) z)", "(rec f (fn (x) x) (seq (f 1) (f \"a\") @y))",
		"(if @x y z)", "(if @1 x y)", "(if True @x y)", "(if True 1 @x)", "(if True 1 @\"a\")", "(if @() x 1)", "(if True Nil @None)",
		"(seq @x)", "(seq 1 @x y)", "(tuple 1 @x y)", "(tuple @x y)",
		"(case @x (y z))", "(case 1 (@\"a\" x))", "(case 1 (x @y))", "(case 1 (1 1) (2 @\"a\"))", "(case 1 (1 1) (@() x))", "(case 1 (1 1) (2 1) (3 @2.5) (x y))", "(case Nil (@None 1))", "(case 1 (@Nil 1))", "(case 1 (@(tuple _ _) 1))",
		"(case (tuple 1 2) (@(tuple _ _ _) 1))", "(case (tuple 1 2) (@(tuple _ \"a\") 1))", "(case (tuple 1 2) (@() 1))",
		"(case 1 (@Foo 1))", "(case 1 (@(Foo x) 1))", "(case Nil (@Cons 1))", "(case Nil (@(Cons _) 1))", "(case Nil (@(Nil _) 1))", "(case Nil ((Cons @(Cons _) _) 1))", "(case Nil ((Cons 1 @2) 1))", "(case Nil ((Cons 1 @None) 1))", "(case Nil ((Cons 1 @(Cons \"a\" _)) 1))",
		"(case 1 ((Fail @1) x))", "(case 1 (@(Fail \"a\") x))", "(case (Some 1) ((Some x) (+ x 1)) ((Some x) @(itoa x)))", "(case 1 (x (cat @x \"a\")))", "(case 1 ((tuple @Foo Foo) 1))", "(case 1 (@(tuple 1 x) y))",
		"(try @x (y z))", "(try 1 (@1 x))", "(try 1 (@() 2))", "(try 1 (_ @\"a\"))", "(try 1 (Div 2) (Out @\"a\"))", "(try \"a\" ((Fail x) x) ((Fail x) @1) (Nil x))", "(try 1 (Div 1) (@Nil x))", "(try 1 (@Foo 1))", "(try 1 (x (raise @1)))",
		"(raise @x)", "(raise @1)", "(raise @Nil)", "(raise @(tuple Div Div))", "(transact @x)", "(+ 1 @(transact \"a\"))",
		"(tuple (raise @1) x)", "(if (raise @1) x y)", "(+ (cat \"a\" @1) \"b\")", "(itoa @())",
	} {
		wantWrong(t, datas+"(do "+e+")", api.ErrType)
		wantWrong(t, datas+"(def a "+e+")", api.ErrType)
		wantWrong(t, datas+"(do (seq 1 (let a (fn (b) (tuple 1 "+e+")) foo)))", api.ErrType)
		wantWrong(t, datas+"(root a int "+e+")", api.ErrType)
		wantWrong(t, datas+"\n(do 1)\n(rec a (fn (b)\n"+e+"))\n(do foo)", api.ErrType)
	}
}

// TestTops: what is asked for of data types, roots, and functions that know themselves.
func TestTops(t *testing.T) {
	for _, src := range []string{
		"@(data int () (A))", "@(data float () (A))", "@(data string () (A))", "@(data unit ('a 'a) (A foo))", "@(data bool () (True))", "@(data exn ('a) (A))", "(data t () (A)) @(data t () (B))", "(data t () (A)) (data u () (B)) @(data t ('a 'a) (A))",
		"@(data t ('a 'a) (A foo))", "@(data t ('a 'b 'c 'b) (A) (A))", "(data t ('a 'b) (A 'a @'c))", "(data t () (A) @(A))", "(data t () (A) (B int) @(A foo))", "(data t () @(True))", "(data t () @(False foo))", "(data t () @(Div))", "(data t () (A) @(Match))", "(data t () @(Abort))", "(data t () @(Keep))", "(data t () @(Out))", "(data t () @(Fail string))",
		"(data t () (A)) (data u () (B) @(A))", "(data t () (A @foo))", "(data t () (A int @foo) (A))", "(data t () (A @'a))", "(data t ('a) (A 'a @'b))", "(data t ('a) (A (t 'a) @t))", "(data t ('a) (A @(t 'a int)))", "(data t ('a) (A @(t foo foo)))", "(data t ('a) (A (t @foo)))",
		"(data t () (A @(t int)))", "(data t () (A @(int int)))", "(data t () (A @(string 'a)))", "(data t () (A @(exn exn)))", "(data t () (A @(bool int)))", "(data t () (A @(unit t)))", "(data t () (A @(float t)))", "(data t () (A (-> t @foo)))", "(data t () (A (-> @foo foo)))", "(data t () (A (-> t t @foo t)))", "(data t () (A (tuple int t @foo)))",
		"(data t () (A (ref @foo)))", "(data t () (A (pref (ref @'a))))", "(data t () (A @u)) (data u () (B))", "(data t ('a) (A)) (data u () (B (t int) @t))", "(data t ('a) (A (t (t (-> 'a @foo)))))", "(data t ('int) (A 'int int @'t))",
		"(root r @'a 1)", "(root r @foo x)", "(root r (-> int @'a) x)", "(root r (ref @'a) (ref 1))", "(root r @(int 'a) x)", "(root r (tuple int @foo 'a) x)", "(data t ('a) (A)) (root r (t @'a) x)", "(data t ('a) (A)) (root r @t x)", "(data t ('a) (A)) (root r @(t 'a 'a) x)",
		"(root r int @x)", "(root r int @r)", "@(root r int \"a\")", "@(root r int (ref 1))", "@(root r (-> int int) (fn (x) (itoa x)))", "@(root r (-> int int int) neg)", "@(root r (tuple int int) (tuple 1 2 3))", "(root r int 1) @(root r int 1)", "(root r int 1) @(root r foo x)", "(root r int 1) (def r 1) (root s int r) @(root r int 1)", "(root r int 1) (do (+ @r 1))",
		"(root r int (+ 1 @\"a\"))", "(root r (ref int) (ref 1)) @(root s (ref int) (ref \"a\"))", "(data t ('a) (A)) @(root r (t int) 1)", "(data t ('a) (A 'a)) @(root r (t int) (A \"a\"))", "(data t ('a) (A 'a)) @(root r (t (t int)) (A 1))",
		"(def x (ref (raise Div))) (root r int (get x)) @(root s string (get x))", "(def f (fn (x) (@f x)))", "@(rec f (fn (x) f))", "@(rec f (fn (x) (seq (f 1 2) 1)))", "(rec f (fn (x) (f @y)))", "(do 1) @(rec f (fn (x y) (seq (+ 1 (f x)) 1)))",
		"(do @A) (data t () (A))", "(def f (fn (x) (case x (@A 1)))) (data t () (A))", "(data t () (A)) (do (case 1 (@A 1)))", "(do 1) (do @x) (do y)", "(do (+ 1 @\"a\")) (data t () (A foo))", "(data t () (A @foo)) (do x)",
	} {
		wantWrong(t, src, api.ErrType)
	}
	wantTypes(t, "(data u ('a) (B)) (data t ('a 'b) (A (t 'b 'a) (u (u 'a)) (-> int 'a)) (C (tuple 'a 'b 'a)))")
}
