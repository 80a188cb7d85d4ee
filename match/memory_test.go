package match

import (
	"reflect"
	"slices"
	"testing"

	"scriptor/api"
)

// spare is a copy of a pattern with spare room behind each list, in which there is a mark.
func spare(p Pat) Pat {
	kids := make([]Pat, 0, len(p.Kids)+1)
	for _, k := range p.Kids {
		kids = append(kids, spare(k))
	}
	kids[:len(kids)+1][len(kids)] = Pat{Op: 77}
	p.Kids = kids
	return p
}

func marked(p Pat) bool {
	if slices.ContainsFunc(p.Kids, func(k Pat) bool { return !marked(k) }) {
		return false
	}
	return p.Kids[:len(p.Kids)+1][len(p.Kids)].Op == 77
}

// spareVal, markedVal likewise, of values.
func spareVal(v api.Val) api.Val {
	kids := make([]api.Val, 0, len(v.Kids)+1)
	for _, k := range v.Kids {
		kids = append(kids, spareVal(k))
	}
	kids[:len(kids)+1][len(kids)] = api.Val{Kind: 77}
	v.Kids = kids
	return v
}

func markedVal(v api.Val) bool {
	if slices.ContainsFunc(v.Kids, func(k api.Val) bool { return !markedVal(k) }) {
		return false
	}
	return v.Kids[:len(v.Kids)+1][len(v.Kids)].Kind == 77
}

// lists are all lists that something has, by where they begin, the spare room among them.
func lists(t *testing.T, x reflect.Value, seen map[uintptr]struct{}) {
	switch x.Kind() {
	case reflect.Struct:
		for i := range x.NumField() {
			lists(t, x.Field(i), seen)
		}
	case reflect.Slice:
		x = x.Slice(0, x.Cap())
		for i := range x.Len() {
			// A field's place is that of its first one: a list is told by what it has.
			if _, ok := seen[x.Index(i).Addr().Pointer()]; ok {
				t.Fatal("a list stands twice")
			}
			seen[x.Index(i).Addr().Pointer()] = struct{}{}
		}
		for i := range x.Len() {
			lists(t, x.Index(i), seen)
		}
	}
}

// alone: do all of these share no list?
func alone(t *testing.T, l ...any) {
	t.Helper()
	seen := map[uintptr]struct{}{}
	for _, x := range l {
		lists(t, reflect.ValueOf(x), seen)
	}
}

// TestNothingIsKept: what is handed in isn't changed, kept, or shared with an answer.
func TestNothingIsKept(t *testing.T) {
	for seed := range 500 {
		m := newMaker(seed)
		rows := m.rows(12, 4, 300)
		var given []Pat
		for _, p := range rows {
			given = append(given, spare(p))
		}
		v := m.like(rows[0])
		path := append(make([]int, 0, 2), 0, 1)[:1]
		x, e := Compile(given...)
		if e != api.OK {
			t.Fatal(e)
		}
		value := spareVal(v)
		n, asked := Run(x, value)
		binds := Binds(given[0])
		part, _ := At(value, path)
		whole, _ := At(value, nil)
		alone(t, x, asked, binds, part, whole, value, given, path)
		for i, p := range given {
			if !marked(p) || !samePat(p, rows[i]) {
				t.Fatal("a pattern was changed")
			}
		}
		if !markedVal(value) || !sameVal(value, v) || path[:2][1] != 1 {
			t.Fatal("a value or a path was changed")
		}
		if again, e := Compile(rows...); e != api.OK || !reflect.DeepEqual(again, x) {
			t.Fatal("a second answer is another one")
		}
		if k, again := Run(x, v); k != n || !slices.EqualFunc(again, asked, slices.Equal) {
			t.Fatal("a second answer is another one")
		}
	}
}

func samePat(a, b Pat) bool {
	return a.Op == b.Op && a.Num == b.Num && a.Text == b.Text && slices.EqualFunc(a.Kids, b.Kids, samePat)
}

func sameVal(a, b api.Val) bool {
	return a.Kind == b.Kind && a.Num == b.Num && a.Text == b.Text && slices.EqualFunc(a.Kids, b.Kids, sameVal)
}

// TestAnswersHangOnWhatIsGiven: where lists are shared within what is given, or spoilt in an answer, nothing changes.
func TestAnswersHangOnWhatIsGiven(t *testing.T) {
	inner := []Pat{in(1), named("x")}
	rows := []Pat{tup(con(1, inner...), con(2, inner...)), tup(con(1, inner...), Pat{}), con(1, inner...), con(2, inner...)}
	x, _ := Compile(rows...)
	y, _ := Compile(rows...)
	alone(t, x, y, inner)
	checkRows(t, rows, vtup(vcon(1, vint(1), vint(2)), vcon(2, vint(1), vint(2))), vtup(vcon(1, vint(1), vint(2)), vcon(2, vint(2), vint(2))), vcon(2, vint(1), vint(0)))
	values := []api.Val{vint(1), vint(2)}
	shared, _ := At(vtup(vtup(values...), vtup(values...), vcon(1, values[:1]...)), nil)
	alone(t, shared, values)
}

// TestTreesOfOthers: Run ends with a tree that Compile never made.
func TestTreesOfOthers(t *testing.T) {
	endless := Tree{Path: []int{0}, Tests: []Pat{{}}, Kids: make([]Tree, 2)}
	endless.Kids[0], endless.Kids[1] = endless, endless
	ring := con(1, Pat{})
	ring.Kids[0] = ring
	value := vcon(1, vint(1))
	value.Kids[0] = value
	long := Tree{Leaf: true, Num: 4}
	for range 1 << 16 {
		long = Tree{Tests: []Pat{{}}, Kids: []Tree{long}}
	}
	trees := []Tree{
		{}, {Num: 7}, endless, long, {Leaf: true, Num: -9}, {Leaf: true, Num: 9, Path: []int{1}, Kids: []Tree{endless}},
		{Path: []int{-1}}, {Path: []int{5}, Tests: []Pat{{}, {}}}, {Tests: []Pat{ring, {Op: 99}, {Op: -1}}, Kids: []Tree{endless}}, {Kids: []Tree{{Leaf: true, Num: 1}, {Leaf: true}}},
		{Path: make([]int, 1<<20), Tests: []Pat{ring}, Kids: []Tree{endless, endless}},
	}
	for _, x := range trees {
		for _, v := range append(odd(), value, vtup(value, value)) {
			Run(x, v)
		}
	}
	// A place that isn't there matches no test.
	for _, path := range [][]int{{1}, {-1}, {0, 0}, {7}} {
		x := Tree{Path: path, Tests: []Pat{{}, named("x"), in(1)}, Kids: []Tree{{Leaf: true, Num: 0}, {Leaf: true, Num: 1}, {Leaf: true, Num: 2}, {Leaf: true, Num: 3}}}
		if n, asked := Run(x, vtup(vint(1))); n != 3 || len(asked) != 1 || !slices.Equal(asked[0], path) {
			t.Error(path, n, asked)
		}
	}
}

// TestWithoutEnd: what stands within itself ends each call.
func TestWithoutEnd(t *testing.T) {
	for n := 1; n < 9; n++ {
		for _, op := range []int{Any, Var, Int, Con, Tuple, 99} {
			kids := make([]Pat, n)
			for i := range kids {
				kids[i] = Pat{Op: op, Num: 1, Text: "x", Kids: kids}
			}
			if op == Con || op == Tuple {
				kids[0] = named("x")
			}
			p := Pat{Op: Tuple, Kids: kids}
			Binds(p)
			if _, e := Compile(p, p); n > 1 && (op == Con || op == Tuple) && e != api.ErrBig {
				t.Error(n, op, e)
			}
		}
		values := make([]api.Val, n)
		for i := range values {
			values[i] = api.Val{Kind: api.Tuple, Kids: values}
		}
		x, _ := Compile(tup(make([]Pat, n)...), tup(tup(in(1))))
		if k, _ := Run(x, values[0]); k != 0 {
			t.Error(n, k)
		}
		if v, ok := At(values[0], []int{0, 0, 0}); ok || v.Kids != nil {
			t.Error("a value within itself is answered")
		}
	}
	// A few lists, each shared by all of the next one, are as good as endless.
	for _, last := range []Pat{named("x"), in(1)} {
		p, v := last, vint(1)
		for range 199 {
			p, v = con(1, slices.Repeat([]Pat{p}, 8)...), vcon(1, slices.Repeat([]api.Val{v}, 8)...)
		}
		if b := Binds(p); b != nil {
			t.Error("more is told than can be", len(b))
		}
		refused(t, api.ErrBig, p)
		if v, ok := At(v, []int{7, 7, 7}); ok || v.Kids != nil {
			t.Error("more is answered than can be")
		}
	}
}

// TestNested: 2^16 parts in one another are promised still.
func TestNested(t *testing.T) {
	const n = 1<<16 - 2
	p, v := named("x"), vint(7)
	for range n {
		p, v = con(1, p), vcon(1, v)
	}
	way := make([]int, n)
	if b := Binds(p); len(b) != 1 || b[0].Name != "x" || !slices.Equal(b[0].Path, way) {
		t.Error(len(b))
	}
	if part, ok := At(v, way); !ok || part.Num != 7 {
		t.Error(part, ok)
	}
	all, ok := At(v, nil)
	for range n {
		if len(all.Kids) != 1 {
			t.Fatal("a part is missing")
		}
		all = all.Kids[0]
	}
	if !ok || all.Num != 7 {
		t.Error(all, ok)
	}
	if _, ok := At(v, append(way, 0)); ok {
		t.Error("nothing stands there")
	}
	x, _ := Compile(con(1, con(1, in(3))), con(1, con(2)), con(1, con(1, con(1, Pat{}))))
	if k, _ := Run(x, v); k != 2 {
		t.Error(k)
	}
	wide := vtup(make([]api.Val, 1<<20)...)
	wide.Kids[1<<20-1] = vint(9)
	if part, ok := At(wide, []int{1<<20 - 1}); !ok || part.Num != 9 {
		t.Error(part, ok)
	}
	if whole, ok := At(wide, nil); !ok || len(whole.Kids) != 1<<20 {
		t.Error(ok)
	}
}
