package match

import (
	"fmt"
	"math"
	"reflect"
	"slices"
	"testing"

	"scriptor/api"
)

func in(n int) Pat              { return Pat{Op: Int, Num: n} }
func str(s string) Pat          { return Pat{Op: Str, Text: s} }
func named(s string) Pat        { return Pat{Op: Var, Text: s} }
func con(n int, l ...Pat) Pat   { return Pat{Op: Con, Num: n, Kids: l} }
func tup(l ...Pat) Pat          { return Pat{Op: Tuple, Kids: l} }
func vint(n int) api.Val        { return api.Val{Num: n} }
func vstr(s string) api.Val     { return api.Val{Kind: api.Str, Text: s} }
func vtup(l ...api.Val) api.Val { return api.Val{Kind: api.Tuple, Kids: l} }

func vcon(n int, l ...api.Val) api.Val {
	return api.Val{Kind: api.Con, Num: n, Kids: l}
}

// odd are values with more than their kind has, or of kinds that no pattern asks for.
func odd() []api.Val {
	return []api.Val{
		{Num: 5, Text: "a", Kids: []api.Val{vint(1)}}, {Kind: api.Str, Num: 5, Text: "a", Kids: []api.Val{vint(1)}}, {Kind: api.Unit, Num: 5, Text: "a", Kids: []api.Val{vint(1)}},
		{Kind: api.Con, Num: 5, Text: "a", Kids: []api.Val{vint(1)}}, {Kind: api.Tuple, Num: 5, Text: "a", Kids: []api.Val{vint(1)}},
		{Kind: api.Float, Num: 5, Text: "a", Kids: []api.Val{vint(1)}}, {Kind: api.Pref, Num: 5, Text: "a", Kids: []api.Val{vint(1)}}, {Kind: 7, Num: 5, Text: "a"}, {Kind: -1, Num: 5, Text: "a"},
		{Kind: math.MaxInt}, {Kind: math.MinInt, Kids: []api.Val{vint(5)}},
	}
}

func TestExample(t *testing.T) {
	rows := []Pat{con(0), con(1, in(5), Pat{}), {}}
	x, e := Compile(rows...)
	if e != api.OK {
		t.Fatal(e)
	}
	for want, l := range map[int][]api.Val{0: {vcon(0)}, 1: {vcon(1, vint(5), api.Val{Kind: api.Unit})}, 2: {vcon(1, vint(6), api.Val{Kind: api.Unit}), vint(7)}} {
		for _, v := range l {
			if n, _ := Run(x, v); n != want {
				t.Errorf("%v comes to %d, not %d", v, n, want)
			}
		}
		checkRows(t, rows, l...)
	}
}

// TestSmallRows: all of one, two and three rows out of small ones, and small values.
func TestSmallRows(t *testing.T) {
	pats := []Pat{
		{}, named("x"), in(5), in(-5), str(""), str("a"), {Op: Unit}, con(0), con(5, Pat{}), con(5, in(1)), con(5, in(1), named("x")), con(5, Pat{}, in(1)), con(4, in(1)),
		tup(), tup(in(1)), tup(Pat{}, in(1)), tup(in(1), str("a")), tup(tup(in(1), Pat{}), in(1)), tup(con(0), Pat{Op: Unit}),
	}
	values := odd()
	parts := []api.Val{vint(1), vint(5), vstr("a"), {Kind: api.Unit}, vcon(0), vtup(vint(1), vint(1)), vtup(vint(2), vint(1))}
	values = append(values, parts...)
	values = append(values, vint(-5), vint(0), vstr(""), vstr("5"), vtup(), vcon(5), vcon(4), vcon(-1), vcon(0, vint(1)))
	for _, a := range parts {
		values = append(values, vcon(5, a), vcon(4, a), vtup(a))
		for _, b := range parts {
			values = append(values, vcon(5, a, b), vtup(a, b))
		}
	}
	values = append(values, vtup(vint(1), vint(1), vint(1)), vcon(5, vint(1), vint(1), vint(1)))
	checkRows(t, nil, values...)
	for _, a := range pats {
		checkRows(t, []Pat{a}, values...)
		for _, b := range pats {
			checkRows(t, []Pat{a, b}, values...)
			for _, c := range pats {
				checkRows(t, []Pat{a, b, c}, values...)
			}
		}
	}
}

// TestNoRows: everything comes to none, and nothing is asked.
func TestNoRows(t *testing.T) {
	for _, rows := range [][]Pat{nil, {}} {
		x, e := Compile(rows...)
		if e != api.OK || !reflect.DeepEqual(x, Tree{Leaf: true, Num: -1}) {
			t.Error(x, e)
		}
		if n, asked := Run(x, vint(1)); n != -1 || asked != nil {
			t.Error(n, asked)
		}
	}
	for _, p := range []Pat{{}, named("x"), {Op: Any, Num: -1, Text: "x", Kids: []Pat{{Op: 9}}}} {
		if x, e := Compile(p, in(1), con(1)); e != api.OK || !reflect.DeepEqual(x, Tree{Leaf: true}) {
			t.Error(x, e)
		}
	}
}

// TestEdges: numbers and texts at their ends.
func TestEdges(t *testing.T) {
	numbers := []int{0, 1, -1, math.MaxInt, math.MinInt, 1 << 62, -1 << 62, 1 << 32, 255, 256}
	var rows []Pat
	var values []api.Val
	for _, n := range numbers {
		rows = append(rows, in(n), con(max(n, 0)), con(max(n, 0), in(n)))
		values = append(values, vint(n), vcon(n), vcon(n, vint(n)), vcon(n, vint(n-1)), vtup(vint(n)))
	}
	for _, s := range []string{"", "\x00", "\xff", "a", "a ", "A", "5", "é"} {
		rows = append(rows, str(s), tup(str(s)))
		values = append(values, vstr(s), vtup(vstr(s)), vtup(vstr(s+" ")))
	}
	checkRows(t, rows, values...)
	slices.Reverse(rows)
	checkRows(t, rows, values...)
}

// refused: Compile answers the error, and nothing beside it.
func refused(t *testing.T, want api.Errno, rows ...Pat) {
	t.Helper()
	if x, e := Compile(rows...); e != want || !reflect.DeepEqual(x, Tree{}) {
		t.Errorf("%.200s: %d, not %d", fmt.Sprint(rows), e, want)
	}
}

func TestRowsThatAreNone(t *testing.T) {
	bad := []Pat{{Op: -1}, {Op: 7}, {Op: 9}, {Op: math.MaxInt}, {Op: math.MinInt}, con(-1), con(math.MinInt), con(-1, Pat{}), con(-1, in(1), in(2))}
	for _, p := range bad {
		refused(t, api.ErrArg, p)
		refused(t, api.ErrArg, p, in(1))
		refused(t, api.ErrArg, in(1), p)
		// A row to which no value can come isn't another one.
		refused(t, api.ErrArg, Pat{}, p)
		refused(t, api.ErrArg, in(1), in(1), p, in(1))
		for _, q := range []Pat{con(1, p), con(1, Pat{}, p), tup(p), tup(p, Pat{}), tup(Pat{}, con(0, tup(Pat{}, p)))} {
			refused(t, api.ErrArg, q)
			refused(t, api.ErrArg, in(1), q, Pat{})
		}
		// Kids of others play no part.
		for op := Any; op <= Unit; op++ {
			q := Pat{Op: op, Num: 5, Text: "a", Kids: []Pat{p, p}}
			checkRows(t, []Pat{q, con(5, q), tup(q, q)}, append(odd(), vint(5), vcon(5, vint(5)), vtup(vint(5), vint(5)), vtup(vstr("a"), vstr("a")), vtup(api.Val{Kind: api.Unit}, vstr("b")))...)
		}
	}
	// Numbers of others are any.
	for _, p := range []Pat{{Op: Any, Num: -1}, {Op: Var, Num: -1}, in(-1), {Op: Str, Num: -1}, {Op: Unit, Num: -1}, {Op: Tuple, Num: -1}} {
		checkRows(t, []Pat{p}, append(odd(), vint(-1), vtup(), vcon(-1))...)
	}
}

// wideOf is a pattern of so many parts, itself among them.
func wideOf(n int) Pat {
	p := tup()
	for n--; n > 40; n -= 40 {
		p.Kids = append(p.Kids, wideOf(40))
	}
	for range n {
		p.Kids = append(p.Kids, in(len(p.Kids)))
	}
	return p
}

func deep(n int, inner Pat) Pat {
	for range n {
		inner = con(1, inner)
	}
	return inner
}

func vdeep(n int, inner api.Val) api.Val {
	for range n {
		inner = vcon(1, inner)
	}
	return inner
}

// TestManyParts: 300 of them aren't too many.
func TestManyParts(t *testing.T) {
	m := newMaker(1)
	for n := 290; n <= 310; n++ {
		var many, wide []Pat
		for i := range n / 2 {
			many = append(many, con(0, in(i)))
			wide = append(wide, con(i%7, Pat{}), in(i))
		}
		for _, rows := range [][]Pat{{wideOf(n)}, {deep(n-1, in(7))}, {wideOf(n / 3), wideOf(n / 2), wideOf(n - n/2 - n/3)}, many, wide, {deep(n-100, named("x")), wideOf(100)}} {
			var values []api.Val
			for _, p := range rows {
				values = append(values, m.like(p), m.like(p))
			}
			values = append(values, vdeep(n-1, vint(7)), vdeep(n-1, vint(8)))
			if size(rows, 1) <= 300 {
				checkRows(t, rows, values...)
				continue
			}
			// It may be answered, or not.
			if _, e := Compile(rows...); e == api.OK {
				checkRows(t, rows, values...)
				continue
			}
			refused(t, api.ErrBig, rows...)
		}
	}
	refused(t, api.ErrBig, deep(1<<16, Pat{}))
	refused(t, api.ErrBig, tup(make([]Pat, 1<<20)...))
}

// TestManyRows: they may be as many as they like, as long as there are few parts.
func TestManyRows(t *testing.T) {
	var rows []Pat
	var values []api.Val
	for i := range 20000 {
		rows = append(rows, in(i), con(i), in(i), str(fmt.Sprint(i)))
		if i%1000 == 0 {
			values = append(values, vint(i), vcon(i), vstr(fmt.Sprint(i)), vtup(vint(i)), vcon(i, vint(i)))
		}
	}
	rows = append(rows, tup(in(1)), tup(Pat{}))
	checkRows(t, rows, values...)
}

// pairs are rows of which each asks for two columns of its own: a value may be
// anything in one of both, in each row, so that no tree is small.
func pairs(n int) []Pat {
	var rows []Pat
	for i := range n {
		p := tup(make([]Pat, 2*n)...)
		p.Kids[2*i], p.Kids[2*i+1] = in(1), in(1)
		rows = append(rows, p)
	}
	return rows
}

func TestGreatTrees(t *testing.T) {
	m := newMaker(5)
	rows := pairs(12)
	if size(rows, 1) != 300 {
		t.Fatal("these should have 300 parts")
	}
	var values []api.Val
	for range 2000 {
		v := vtup()
		for range 24 {
			v.Kids = append(v.Kids, vint(m.Intn(4)/2))
		}
		values = append(values, v)
	}
	checkRows(t, rows, values...)
}

// branch is a pattern that asks for as many columns as it may at the end of a
// way of its own.
func branch(rows, i, columns int) Pat {
	if rows == 1 {
		return tup(slices.Repeat([]Pat{in(1)}, columns)...)
	}
	p := tup(make([]Pat, 3)...)
	p.Kids[i/(rows/3)] = branch(rows/3, i%(rows/3), columns)
	return p
}

// TestTooGreatTrees: no machine holds what answers for these rows; that is told at once.
func TestTooGreatTrees(t *testing.T) {
	var rows []Pat
	for i := range 19 {
		rows = append(rows, branch(27, i, 5))
	}
	if n := size(rows, 1); n > 300 {
		t.Fatal(n)
	}
	refused(t, api.ErrBig, rows...)
}

func TestBinds(t *testing.T) {
	for _, c := range []struct {
		p    Pat
		want []Bind
	}{
		{Pat{}, nil}, {in(1), nil}, {tup(), nil}, {str("x"), nil}, {Pat{Op: Unit, Text: "x"}, nil}, {con(3), nil}, {Pat{Op: Any, Text: "x"}, nil}, {Pat{Op: Con, Text: "x"}, nil},
		{named("x"), []Bind{{"x", nil}}}, {named(""), []Bind{{"", nil}}},
		{con(1, named("h"), con(1, Pat{}, named("t"))), []Bind{{"h", []int{0}}, {"t", []int{1, 1}}}},
		{tup(named("b"), tup(named("a"), in(1), con(0, named("c"))), named("b")), []Bind{{"b", []int{0}}, {"a", []int{1, 0}}, {"c", []int{1, 2, 0}}, {"b", []int{2}}}},
		{Pat{Op: Var, Text: "x", Kids: []Pat{named("y")}}, []Bind{{"x", nil}}},
		{tup(Pat{Kids: []Pat{named("y")}}, Pat{Op: Int, Kids: []Pat{named("y")}}, Pat{Op: Str, Kids: []Pat{named("y")}}, Pat{Op: Unit, Kids: []Pat{named("y")}}, named("z")), []Bind{{"z", []int{4}}}},
	} {
		got := Binds(c.p)
		if !slices.EqualFunc(got, c.want, func(a, b Bind) bool { return a.Name == b.Name && slices.Equal(a.Path, b.Path) }) {
			t.Errorf("%v: %v, not %v", c.p, got, c.want)
		}
	}
}

// vars are a pattern's variables, told by going through it a second way: from the last one on.
func vars(p Pat, path []int) []Bind {
	if p.Op == 1 {
		return []Bind{{p.Text, slices.Clone(path)}}
	}
	var l []Bind
	if p.Op == 5 || p.Op == 6 {
		for i, k := range slices.Backward(p.Kids) {
			l = append(vars(k, append(slices.Clone(path), i)), l...)
		}
	}
	return l
}

func TestBindsByChance(t *testing.T) {
	found := 0
	for seed := range 10000 {
		m := newMaker(seed)
		p := m.pat(5)
		got, want := Binds(p), vars(p, nil)
		found += len(want)
		if !slices.EqualFunc(got, want, func(a, b Bind) bool { return a.Name == b.Name && slices.Equal(a.Path, b.Path) }) {
			t.Fatalf("%v: %v, not %v", p, got, want)
		}
		// What stands at a variable's place is what the variable is.
		v := m.like(p)
		for _, b := range got {
			if part, ok := At(v, b.Path); matches(p, v) && (!ok || !reflect.DeepEqual(part, at(v, b.Path))) {
				t.Fatalf("%v: %v", v, b)
			}
		}
	}
	if found < 3000 {
		t.Error("there are too few variables", found)
	}
}

// at is what stands at a place that is there.
func at(v api.Val, path []int) api.Val {
	if len(path) == 0 {
		return v
	}
	return at(v.Kids[path[0]], path[1:])
}

func TestAt(t *testing.T) {
	v := vcon(1, vint(4), vtup(vstr("a"), vcon(2, vint(5))), api.Val{Kind: 77, Num: -3, Text: "t", Kids: []api.Val{vint(6)}})
	for _, c := range []struct {
		path []int
		want api.Val
	}{
		{nil, v}, {[]int{}, v}, {[]int{0}, vint(4)}, {[]int{1}, v.Kids[1]}, {[]int{1, 0}, vstr("a")}, {[]int{1, 1}, vcon(2, vint(5))}, {[]int{1, 1, 0}, vint(5)},
		{[]int{2}, v.Kids[2]}, {[]int{2, 0}, vint(6)},
	} {
		if got, ok := At(v, c.path); !ok || !reflect.DeepEqual(got, c.want) {
			t.Errorf("%v: %v, %v", c.path, got, ok)
		}
	}
	for _, path := range [][]int{{-1}, {3}, {0, 0}, {1, 2}, {1, 1, 1}, {1, 1, 0, 0}, {math.MaxInt}, {math.MinInt}, {1, -1}, {2, 1}, {3, 0}, {-1, 0}, {0, 0, 0, 0}} {
		if got, ok := At(v, path); ok || !reflect.DeepEqual(got, api.Val{}) {
			t.Errorf("%v: %v, %v", path, got, ok)
		}
	}
	// Nil and empty lists are one.
	if got, ok := At(api.Val{Kids: []api.Val{{Kids: []api.Val{}}}}, []int{0}); !ok || len(got.Kids) != 0 {
		t.Error(got, ok)
	}
}
