package kind

import (
	"fmt"
	"math"
	"slices"
	"strings"
	"testing"

	"scriptor/api"
)

var integer = Con("int")

func times(t Type, n int) []Type { return slices.Repeat([]Type{t}, n) }

func TestTypes(t *testing.T) {
	for _, n := range []int{0, 1, -1, 99, math.MaxInt, math.MinInt} {
		if v := Var(n); v.Op != 0 || v.Num != n || v.Text != "" || v.Kids != nil {
			t.Error(v)
		}
	}
	if c := Con("int"); c.Op != 1 || c.Num != 0 || c.Text != "int" || c.Kids != nil {
		t.Error(c)
	}
	if c := Con("", []Type{}...); c.Op != 1 || c.Text != "" || c.Kids != nil {
		t.Error(c)
	}
	c := Con("->", Var(1), Con("list", integer))
	if c.Op != 1 || c.Text != "->" || len(c.Kids) != 2 || c.Kids[0].Op != 0 || c.Kids[0].Num != 1 || c.Kids[1].Text != "list" || c.Kids[1].Kids[0].Text != "int" {
		t.Error(c)
	}
}

func TestExamples(t *testing.T) {
	s := New()
	if err := s.Unify(Var(1), integer); err != api.OK {
		t.Error(err)
	}
	if full, err := s.Full(Var(1)); err != api.OK || Show(full) != "int" {
		t.Error(full, err)
	}
	if err := New().Unify(Var(1), Con("list", Var(1))); err != api.ErrType {
		t.Error(err)
	}
	if got := Show(Con("->", Var(5), Var(2), Var(5))); got != "(-> 'a 'b 'a)" {
		t.Error(got)
	}
}

func TestFresh(t *testing.T) {
	s := New()
	for i := 1; i < 2000; i++ {
		if i%7 == 0 {
			// What variables stand for changes nothing, neither do other solvers.
			s.Unify(Var(i+3), integer)
			s.Unify(Var(i+1000), Con("list", Var(i)))
			New().Fresh()
		}
		if v := s.Fresh(); v.Op != 0 || v.Num != i || v.Text != "" || v.Kids != nil {
			t.Fatal(v, i)
		}
	}
}

// TestWhichStands: the first one stands for the second one, if both are variables.
func TestWhichStands(t *testing.T) {
	for _, c := range []struct {
		pairs [][2]Type
		want  string
	}{
		{[][2]Type{{Var(1), Var(2)}}, "2 2 3 4"}, {[][2]Type{{Var(2), Var(1)}}, "1 1 3 4"}, {[][2]Type{{Var(1), Var(1)}}, "1 2 3 4"},
		{[][2]Type{{Var(1), Var(2)}, {Var(2), Var(1)}}, "2 2 3 4"}, {[][2]Type{{Var(1), Var(2)}, {Var(1), Var(3)}}, "3 3 3 4"},
		{[][2]Type{{Var(1), Var(2)}, {Var(3), Var(4)}, {Var(1), Var(3)}}, "4 4 4 4"}, {[][2]Type{{Var(1), Var(2)}, {Var(3), Var(1)}}, "2 2 2 4"},
		{[][2]Type{{Var(1), Var(2)}, {Var(2), Var(3)}, {Var(3), Var(4)}, {Var(4), Var(1)}}, "4 4 4 4"},
		{[][2]Type{{Con("t", Var(1), Var(2)), Con("t", Var(2), Var(3))}}, "3 3 3 4"}, {[][2]Type{{Con("t", Var(1), Var(1)), Con("t", Var(2), Var(3))}}, "3 3 3 4"},
	} {
		s := New()
		for _, p := range c.pairs {
			if err := s.Unify(p[0], p[1]); err != api.OK {
				t.Error(c, err)
			}
		}
		var got []string
		for i := 1; i <= 4; i++ {
			v, _ := s.Full(Var(i))
			got = append(got, fmt.Sprint(v.Num))
		}
		if strings.Join(got, " ") != c.want {
			t.Error(c, got)
		}
	}
}

// TestNotOne: what makes no two types one, on either side, and within others.
func TestNotOne(t *testing.T) {
	for _, c := range [][2]Type{
		{integer, Con("float")}, {integer, Con("int", integer)}, {Con("t", integer), Con("t", integer, integer)}, {Con(""), Con("t")}, {integer, Con("Int")},
		{Con("t", integer, integer), Con("t", integer, Con("float"))}, {Var(1), Con("t", Var(1))}, {Con("t", Var(1), Var(1)), Con("t", integer, Con("float"))},
		{Con("t", Var(1), Var(2)), Con("t", Var(2), Con("t", Var(1), integer))}, {Var(1), Con("t", integer, Con("t", Var(1)))},
	} {
		if err := New().Unify(c[0], c[1]); err != api.ErrType {
			t.Error(c, err)
		}
		if err := New().Unify(c[1], c[0]); err != api.ErrType {
			t.Error(c, err)
		}
		if err := New().Unify(Con("u", Var(9), c[0]), Con("u", integer, c[1])); err != api.ErrType {
			t.Error(c, err)
		}
	}
	for _, c := range [][2]Type{{{Op: 1, Text: "a"}, {Op: 7, Num: 3, Text: "a"}}, {{Op: -1, Text: "a", Kids: []Type{integer}}, {Op: 1, Num: -9, Text: "a", Kids: []Type{{Op: 5, Text: "int", Kids: []Type{}}}}}} {
		if err := New().Unify(c[0], c[1]); err != api.OK {
			t.Error(c, err)
		}
	}
}

// TestAheadOfAnError: what was found out ahead of an error stays, and no more.
func TestAheadOfAnError(t *testing.T) {
	s := New()
	if err := s.Unify(Con("t", Var(1), integer, Var(2)), Con("t", Con("list", Var(3)), Con("float"), integer)); err != api.ErrType {
		t.Error(err)
	}
	if full, err := s.Full(Con("t", Var(1), Var(2))); err != api.OK || !same(full, Con("t", Con("list", Var(3)), Var(2))) {
		t.Error(full, err)
	}
	if err := s.Unify(Con("t", Var(2), Var(4), Var(5)), Con("t", integer, Con("t", times(integer, 1000)...), integer)); err != api.ErrBig {
		t.Error(err)
	}
	if full, err := s.Full(Con("t", Var(2), Var(4), Var(5))); err != api.OK || !same(full, Con("t", integer, Var(4), Var(5))) {
		t.Error(full, err)
	}
	if err := s.Unify(Var(5), Con("t", Var(5))); err != api.ErrType {
		t.Error(err)
	}
	if full, err := s.Full(Var(5)); err != api.OK || !same(full, Var(5)) {
		t.Error(full, err)
	}
}

// TestThousandParts: so many may stand in a variable's place, and be in full.
func TestThousandParts(t *testing.T) {
	for n := 995; n < 1005; n++ {
		want := api.OK
		if n > 1000 {
			want = api.ErrBig
		}
		row := Con("t", times(integer, n-1)...)
		deep := integer
		for range n - 1 {
			deep = Type{Op: 1, Text: "list", Kids: []Type{deep}}
		}
		vars := Con("t", times(Var(7), n-1)...)
		for _, c := range []Type{row, deep, vars} {
			for _, both := range [][2]Type{{Var(1), c}, {c, Var(1)}, {Con("u", Var(1)), Con("u", c)}} {
				s := New()
				if err := s.Unify(both[0], both[1]); err != want {
					t.Error(n, err)
				}
				full, err := s.Full(Var(1))
				if want == api.OK && (err != want || !same(full, c)) || want != api.OK && !same(full, Var(1)) {
					t.Error(n, err)
				}
			}
			if full, err := New().Full(c); err != want || want == api.OK && !same(full, c) || want != api.OK && (full.Op != 0 || full.Kids != nil) {
				t.Error(n, err)
			}
		}
		// what its variables stand for counts, as often as it stands
		s := New()
		s.Unify(Var(2), Con("list", integer))
		s.Unify(Var(3), Var(2))
		two := Con("t", append(times(Var(3), 2), times(integer, n-5)...)...)
		if err := s.Unify(Var(1), two); err != want {
			t.Error(n, err)
		}
		if _, err := s.Full(two); err != want {
			t.Error(n, err)
		}
		// too many, and the variable in them
		self := Con("t", append(times(Var(1), 1), times(integer, n-2)...)...)
		if want == api.OK {
			want = api.ErrType
		}
		if err := New().Unify(Var(1), self); err != want {
			t.Error(n, err)
		}
	}
}

// TestStandsForMuch: a variable may stand for more than a thousand parts, if its variables do later on.
func TestStandsForMuch(t *testing.T) {
	s := New()
	for i := 1; i < 40; i++ {
		if err := s.Unify(Var(i), Con("two", Var(i+1), Var(i+1))); err != api.OK {
			t.Fatal(i, err)
		}
	}
	if _, err := s.Full(Var(1)); err != api.ErrBig {
		t.Error(err)
	}
	// 2^9 - 1 parts, and 2^10 - 1
	if full, err := s.Full(Var(32)); err != api.OK || len(words(full)) != 511 {
		t.Error(err)
	}
	if full, err := s.Full(Var(31)); err != api.ErrBig || full.Kids != nil || full.Op != 0 {
		t.Error(err)
	}
	if err := s.Unify(Var(99), Var(31)); err != api.ErrBig {
		t.Error(err)
	}
	// against itself: 2^13 - 1 pairs, and 2^14 - 1
	if err := s.Unify(Con("u", Var(28)), Con("u", Var(28))); err != api.OK {
		t.Error(err)
	}
	if err := s.Unify(Con("u", Var(27)), Con("u", Var(27))); err != api.ErrBig {
		t.Error(err)
	}
}

// TestTenThousandPairs: so many are looked at; ahead of the next one it is too big.
func TestTenThousandPairs(t *testing.T) {
	for n := 9995; n < 10005; n++ {
		// so many pairs
		a := Con("t", times(integer, n-1)...)
		want := api.OK
		if n > 10000 {
			want = api.ErrBig
		}
		if err := New().Unify(a, a); err != want {
			t.Error(n, err)
		}
		vars := Con("t", times(Var(1), n-1)...)
		if err := New().Unify(a, vars); err != want {
			t.Error(n, err)
		}
		if err := New().Unify(vars, vars); err != want {
			t.Error(n, err)
		}
		b := Con("t", times(integer, n-1)...)
		b.Kids[n-2] = Con("float")
		if want == api.OK {
			want = api.ErrType
		}
		if err := New().Unify(a, b); err != want {
			t.Error(n, err)
		}
		s := New()
		b.Kids[n-2] = Var(5)
		s.Unify(b, a)
		if full, _ := s.Full(Var(5)); n <= 10000 && Show(full) != "int" || n > 10000 && Show(full) != "'a" {
			t.Error(n, full)
		}
	}
	// a type that a variable stands for is gone through each time, also against itself: 999 parts, ten times, and 9 or 10
	s := New()
	s.Unify(Var(1), Con("t", times(integer, 998)...))
	s.Unify(Var(2), Var(1))
	for n := range 12 {
		a := Con("u", append(times(Var(2), 10), times(integer, n)...)...)
		b := Con("u", append(times(Var(1), 10), times(integer, n)...)...)
		want := api.OK
		if 1+9990+n > 10000 {
			want = api.ErrBig
		}
		for _, err := range []api.Errno{s.Unify(a, b), s.Unify(b, b), s.Unify(b, a)} {
			if err != want {
				t.Error(n, err)
			}
		}
	}
}

// TestLongRows: variables that stand for one another, in a long row.
func TestLongRows(t *testing.T) {
	const long = 200000
	s := New()
	for i := range long {
		if err := s.Unify(Var(1), Var(i+2)); err != api.OK {
			t.Fatal(i, err)
		}
	}
	if err := s.Unify(Con("t", Var(1)), Con("t", integer)); err != api.OK {
		t.Error(err)
	}
	for i := range long {
		if full, err := s.Full(Var(i)); i > 0 && (err != api.OK || full.Text != "int") {
			t.Fatal(i, full, err)
		}
	}
	s = New()
	for i := range long {
		if err := s.Unify(Var(i), Var(i+1)); err != api.OK {
			t.Fatal(i, err)
		}
	}
	if full, err := s.Full(Var(0)); err != api.OK || full.Num != long {
		t.Error(full, err)
	}
	if err := s.Unify(Var(0), integer); err != api.OK {
		t.Error(err)
	}
	if full, err := s.Full(Var(long / 2)); err != api.OK || full.Text != "int" {
		t.Error(full, err)
	}
}

func TestLetters(t *testing.T) {
	for _, c := range []struct {
		t    Type
		want string
	}{
		{Var(9), "'a"}, {Type{}, "'a"}, {integer, "int"}, {Con(""), ""}, {Con("", integer), "( int)"}, {Con("list", Var(3)), "(list 'a)"}, {Con("f x", Con("'a"), Var(0)), "(f x 'a 'a)"},
		{Con("->", Con("->", Var(2), Var(1)), Con("->", Var(1), Var(3))), "(-> (-> 'a 'b) (-> 'b 'c))"}, {Type{Op: 9, Num: 4, Text: "x", Kids: []Type{}}, "x"},
		{Type{Op: 0, Num: 4, Text: "x", Kids: []Type{Var(1)}}, "'a"},
	} {
		if got := Show(c.t); got != c.want {
			t.Errorf("%v: %q, not %q", c.t, got, c.want)
		}
	}
	for i := range 800 {
		row := Con("t")
		for v := range i + 1 {
			row.Kids = append(row.Kids, Var(-v))
		}
		want := fmt.Sprintf(" '%c)", 'a'+i%26)
		if i >= 26 {
			want = fmt.Sprintf(" '%c%d)", 'a'+i%26, i/26)
		}
		if got := Show(row); !strings.HasSuffix(got, want) {
			t.Fatal(i, want)
		}
	}
}

// TestVariablesAlone: of a variable its Num counts alone.
func TestVariablesAlone(t *testing.T) {
	v := Type{Num: 3, Text: "x", Kids: times(Var(8), 5000)}
	if got := Vars(Con("t", v)); !slices.Equal(got, []int{3}) {
		t.Error(got)
	}
	if got := Swap(v, []int{8}, []Type{integer}); !same(got, Var(3)) {
		t.Error(got)
	}
	s := New()
	if full, err := s.Full(v); err != api.OK || !same(full, Var(3)) {
		t.Error(full, err)
	}
	if s.Unify(v, Var(3)) != api.OK || s.Unify(v, integer) != api.OK || s.Unify(Var(3), integer) != api.OK {
		t.Error("Unify")
	}
}

func TestSwapEdges(t *testing.T) {
	x := Con("t", Var(1), Var(2), Var(1))
	for _, c := range []struct {
		vars []int
		by   []Type
		want string
	}{
		{nil, nil, "(t 'a 'b 'a)"}, {[]int{1}, nil, "(t 'a 'b 'a)"}, {nil, []Type{integer}, "(t 'a 'b 'a)"}, {[]int{1}, []Type{integer}, "(t int 'a int)"},
		{[]int{1, 2}, []Type{Var(2), Var(1)}, "(t 'a 'b 'a)"}, {[]int{1, 2}, []Type{Var(2)}, "(t 'a 'a 'a)"}, {[]int{1, 1}, []Type{integer, Con("x")}, "(t int 'a int)"},
		{[]int{3, 1, 2, 1}, []Type{Con("a"), Con("b"), Con("c"), Con("d")}, "(t b c b)"}, {[]int{2, 1, 1}, []Type{Con("a")}, "(t 'a a 'a)"},
		{[]int{1}, []Type{Con("u", Var(1))}, "(t (u 'a) 'b (u 'a))"}, {[]int{1, 2}, []Type{Var(2), integer}, "(t 'a int 'a)"},
	} {
		if got := Show(Swap(x, c.vars, c.by)); got != c.want {
			t.Errorf("%v %v: %v, not %v", c.vars, c.by, got, c.want)
		}
	}
	if got := Swap(Var(1), []int{1}, []Type{x}); !same(got, x) {
		t.Error(got)
	}
}

// TestNoSolver: of none, and of one that New didn't make.
func TestNoSolver(t *testing.T) {
	var s *Solver
	if v := s.Fresh(); v.Op != 0 || v.Num != 0 || v.Kids != nil {
		t.Error(v)
	}
	if v := s.Fresh(); v.Num != 0 {
		t.Error(v)
	}
	if err := s.Unify(integer, integer); err != api.ErrArg {
		t.Error(err)
	}
	if full, err := s.Full(integer); err != api.ErrArg || full.Op != 0 || full.Text != "" || full.Kids != nil {
		t.Error(full, err)
	}
	s = &Solver{}
	if err := s.Unify(Var(1), integer); err != api.OK {
		t.Error(err)
	}
	if full, err := s.Full(s.Fresh()); err != api.OK || full.Text != "int" {
		t.Error(full, err)
	}
}
