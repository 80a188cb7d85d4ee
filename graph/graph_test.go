package graph

import (
	"fmt"
	"math"
	"slices"
	"strings"
	"testing"

	"scriptor/api"
	"scriptor/disk"
	"scriptor/store"
	"scriptor/val"
)

func TestExample(t *testing.T) {
	roots := []Root{root("b", "u", 7), root("a", "t", 5)}
	objs := map[int]api.Val{5: pref(7), 7: integer(1)}
	want := Graph{[]Root{root("a", "t", 1), root("b", "u", 2)}, []api.Val{pref(2), integer(1)}}
	made(t, roots, objs, want)
	if s := Text(want); s != "a:t=@1\nb:u=@2\n@1=@2\n@2=1\n" {
		t.Error(s)
	}
	if g, e := Of(held(t, roots, objs)); e != api.OK || !same(g, want) {
		t.Error(e, Text(g))
	}
}

func TestMake(t *testing.T) {
	for i, x := range []struct {
		roots []Root
		objs  map[int]api.Val
		want  Graph
	}{
		{nil, nil, Graph{}}, {nil, map[int]api.Val{1: unit(), 2: pref(9)}, Graph{}},
		// All of the roots come ahead of what their objects name, each once.
		{[]Root{root("c", "", 3), root("a", "", 9), root("b", "", 3)}, map[int]api.Val{3: tuple(pref(4), pref(9)), 9: tuple(pref(8), pref(3)), 4: unit(), 8: integer(8)},
			Graph{[]Root{root("a", "", 1), root("b", "", 2), root("c", "", 2)}, []api.Val{tuple(pref(3), pref(2)), tuple(pref(4), pref(1)), integer(8), unit()}}},
		// A whole object's names come ahead of what these name.
		{[]Root{root("r", "", 1)}, map[int]api.Val{1: con(1, con(2, pref(6), pref(5)), pref(4), pref(6)), 6: tuple(pref(3), pref(1)), 5: pref(2), 4: pref(6), 3: pref(3), 2: text("2")},
			Graph{[]Root{root("r", "", 1)}, []api.Val{con(1, con(2, pref(2), pref(3)), pref(4), pref(2)), tuple(pref(5), pref(1)), pref(6), pref(2), pref(5), text("2")}}},
		// Rings: of one, of two, of three that nobody leads to.
		{[]Root{root("r", "", 1<<40)}, map[int]api.Val{1 << 40: pref(1 << 40)}, Graph{[]Root{root("r", "", 1)}, []api.Val{pref(1)}}},
		{[]Root{root("r", "", 8), root("s", "", 7)}, map[int]api.Val{7: pref(8), 8: pref(7), 1: pref(2), 2: pref(3), 3: tuple(pref(1), pref(8))},
			Graph{[]Root{root("r", "", 1), root("s", "", 2)}, []api.Val{pref(2), pref(1)}}},
		{[]Root{root("r", "", 1)}, map[int]api.Val{1: tuple(pref(2), pref(2)), 2: tuple(pref(3), pref(3)), 3: con(0, pref(1), pref(3), pref(2))},
			Graph{[]Root{root("r", "", 1)}, []api.Val{tuple(pref(2), pref(2)), tuple(pref(3), pref(3)), con(0, pref(1), pref(3), pref(2))}}},
		// What isn't met need name nothing that is there.
		{[]Root{root("r", "", 2)}, map[int]api.Val{2: unit(), 3: pref(100), 4: pref(4)}, Graph{[]Root{root("r", "", 1)}, []api.Val{unit()}}},
	} {
		made(t, x.roots, x.objs, x.want)
		if g, ok := again(x.roots, x.objs); !ok || !same(g, x.want) {
			t.Errorf("%d: the second reckoning: %s", i, Text(g))
		}
	}
}

// Against the second reckoning; then with other numbers, and with more that no root leads to.
func TestMakeOfAny(t *testing.T) {
	next := dice(8)
	sizes, missed := map[int]int{}, 0
	for range 3000 {
		n := 1 + next(12)
		ids := someNumbers(next, n+1)
		objs := map[int]api.Val{}
		for _, id := range ids[:n] {
			objs[id] = some(next, ids[:n+next(30)/29], next(4))
		}
		var roots []Root
		for i := range next(5) {
			roots = append(roots, root(fmt.Sprint(i*7%5), "t", ids[next(n)]))
		}
		want, ok := again(roots, objs)
		if !ok {
			missed++
			if g, e := Make(roots, listed(objs, rising)); e != api.ErrMiss || !same(g, Graph{}) {
				t.Fatal(e, Text(g))
			}
			continue
		}
		sizes[len(want.Objs)]++
		made(t, roots, objs, want)
		renamed(t, next, ids, roots, objs, want)
	}
	if missed == 0 || len(sizes) < 10 {
		t.Error("too few kinds of graphs", missed, sizes)
	}
}

// renamed gives all objects other numbers, and adds some.
func renamed(t *testing.T, next func(int) int, ids []int, roots []Root, objs map[int]api.Val, want Graph) {
	t.Helper()
	number, others := map[int]int{}, someNumbers(next, len(ids)+3)
	for i, id := range ids {
		number[id] = others[i]
	}
	moved := map[int]api.Val{}
	for id, v := range objs {
		moved[number[id]] = with(v, number)
	}
	// What no root leads to: a ring, and what names nothing.
	moved[others[len(ids)]], moved[others[len(ids)+1]] = pref(others[len(ids)+1]), tuple(pref(others[len(ids)]), pref(others[0]))
	moved[others[len(ids)+2]] = pref(1 << 40)
	led := slices.Clone(roots)
	for i := range led {
		led[i].Id = number[led[i].Id]
	}
	made(t, led, moved, want)
	if next(30) > 0 {
		return
	}
	for _, s := range []*store.Store{held(t, roots, objs), held(t, led, moved)} {
		if g, e := Of(s); e != api.OK || !same(g, want) {
			t.Fatal(e, Text(g))
		}
	}
}

// A graph that was made is one from which it is made again.
func TestMakeOfAGraph(t *testing.T) {
	g, e := Make([]Root{root("x", "t", 9), root("a", "u", 5)}, []Object{{5, tuple(pref(7), pref(9))}, {9, con(3, pref(5), pref(9))}, {7, pref(8)}, {8, text("8")}})
	var l []Object
	for i, v := range g.Objs {
		l = append(l, Object{i + 1, v})
	}
	if again, f := Make(g.Roots, l); e != api.OK || f != api.OK || !same(again, g) {
		t.Error(e, f, Text(again))
	}
}

func TestMakeOfOneNumberTwice(t *testing.T) {
	roots := []Root{root("r", "", 5)}
	for _, l := range [][]Object{
		{{5, integer(1)}, {5, integer(2)}}, {{5, integer(1)}, {5, integer(2)}, {5, pref(9)}}, {{4, integer(4)}, {5, integer(1)}, {4, integer(5)}, {5, pref(4)}},
	} {
		if g, e := Make(roots, l); e != api.OK || Text(g) != "r:=@1\n@1=1\n" {
			t.Error(e, Text(g))
		}
	}
	if _, e := Make(roots, []Object{{5, pref(9)}, {5, integer(1)}}); e != api.ErrMiss {
		t.Error("a second one counts", e)
	}
	if _, e := Make(roots, []Object{{5, integer(1)}, {5, pref(0)}}); e != api.ErrForm {
		t.Error("a second one isn't looked at", e)
	}
}

func TestMakeRefuses(t *testing.T) {
	good, bad := root("r", "t", 5), root("", "t", 5)
	five := Object{5, unit()}
	full := text(strings.Repeat("x", 4096))
	for i, x := range []struct {
		roots []Root
		objs  []Object
		want  api.Errno
	}{
		{[]Root{bad}, []Object{five}, api.ErrForm}, {[]Root{good, good}, []Object{five}, api.ErrForm}, {many(101), nil, api.ErrBig},
		// The errors in their order: Dir's, then a value's form, whether a root leads there or not, then what is missed.
		{many(101), []Object{{5, pref(0)}}, api.ErrBig}, {append(many(101), bad), nil, api.ErrForm},
		{[]Root{good}, []Object{{6, pref(0)}}, api.ErrForm}, {[]Root{good}, []Object{five, {6, pref(0)}}, api.ErrForm}, {nil, []Object{{6, pref(0)}}, api.ErrForm},
		{[]Root{good}, []Object{five, {-1, integer(1 << 62)}}, api.ErrForm}, {[]Root{good}, []Object{{5, pref(7)}, {8, con(256)}}, api.ErrForm},
		// A value of too many bytes isn't in form, either.
		{[]Root{good}, []Object{five, {6, tuple(full, full, full, full)}}, api.ErrForm}, {[]Root{good}, []Object{{5, shared(con(1))}}, api.ErrForm},
		{[]Root{good}, []Object{{5, endless(api.Con, 1, 2)}}, api.ErrForm}, {nil, []Object{{5, endless(api.Tuple, 0, 8)}}, api.ErrForm},
		{[]Root{good}, nil, api.ErrMiss}, {[]Root{good}, []Object{{6, unit()}, {4, unit()}}, api.ErrMiss}, {[]Root{good}, []Object{{5, pref(7)}}, api.ErrMiss},
		{[]Root{good}, []Object{{5, tuple(pref(5), pref(6))}, {6, con(1, unit(), pref(7))}, {8, unit()}}, api.ErrMiss},
		{[]Root{good, root("s", "t", 6)}, []Object{five}, api.ErrMiss}, {[]Root{good}, []Object{{5, pref(1 << 40)}}, api.ErrMiss},
		// An object may have any number; none of those beyond an object's is met.
		{[]Root{good}, []Object{five, {0, unit()}, {-1, pref(9)}, {math.MinInt, unit()}, {math.MaxInt, unit()}}, api.OK}, {nil, []Object{{0, pref(3)}}, api.OK},
	} {
		g, e := Make(x.roots, x.objs)
		if e != x.want || e != api.OK && !same(g, Graph{}) {
			t.Errorf("%d: %d, not %d: %s", i, e, x.want, Text(g))
		}
	}
}

// With its new numbers a value may have more bytes than can be kept: the graph is the same.
func TestMakeOfTheMostBytes(t *testing.T) {
	// Object 2 is met behind 70 others.
	objs := map[int]api.Val{2: unit(), 3: tuple(pref(4), pref(5)), 5: long(t, api.MaxValue, naming(slices.Repeat([]int{2}, 300)...))}
	var others []int
	for id := 10; id < 80; id++ {
		objs[id] = unit()
		others = append(others, id)
	}
	objs[4] = naming(others...)
	roots := []Root{root("r", "", 3)}
	want, ok := again(roots, objs)
	if !ok || valBytes(want.Objs[2]) != api.MaxValue+300 {
		t.Fatal("the test's own value has too few bytes", ok)
	}
	made(t, roots, objs, want)
	if g, e := Of(held(t, roots, objs)); e != api.OK || !same(g, want) || !Same(g, want) {
		t.Error(e)
	}
}

func TestSame(t *testing.T) {
	r, s := root("a", "t", 1), root("b", "t", 1)
	l := []Graph{
		{}, {Roots: []Root{r}}, {Roots: []Root{s}}, {Roots: []Root{r, s}}, {Roots: []Root{s, r}}, {Roots: []Root{root("a", "u", 1)}}, {Roots: []Root{root("a", "t", 2)}},
		{Objs: []api.Val{unit()}}, {Objs: []api.Val{integer(6)}}, {[]Root{r}, []api.Val{unit()}}, {[]Root{r}, []api.Val{unit(), unit()}}, {[]Root{r}, []api.Val{unit(), pref(1)}},
		{[]Root{r}, []api.Val{pref(1), unit()}}, {[]Root{r}, []api.Val{con(1, pref(1))}}, {[]Root{r}, []api.Val{con(1, pref(2))}}, {[]Root{r}, []api.Val{con(1, con(1, pref(2)))}},
		// As they stand: in form or not.
		{[]Root{{}}, []api.Val{pref(0)}}, {[]Root{root("", "", math.MaxInt)}, []api.Val{{Kind: 99, Num: -1, Text: "x"}}}, {[]Root{r, r}, []api.Val{unit()}},
	}
	for i, a := range l {
		for k, b := range l {
			b = Graph{slices.Clone(b.Roots), slices.Clone(b.Objs)}
			if got := Same(a, b); got != (i == k) {
				t.Errorf("%d and %d: %v", i, k, got)
			}
		}
	}
	if !Same(Graph{}, Graph{[]Root{}, []api.Val{}}) || !Same(Graph{Objs: []api.Val{{Kids: []api.Val{}}}}, Graph{Objs: []api.Val{{}}}) {
		t.Error("nil and empty are two")
	}
	a, b := Graph{Objs: []api.Val{shared(con(1)), unit()}}, Graph{Objs: []api.Val{shared(con(1)), pref(1)}}
	if !Same(a, a) || Same(a, b) || Same(a, Graph{}) {
		t.Error("lists that are shared")
	}
	c := Graph{Objs: []api.Val{endless(api.Con, 1, 2)}}
	Same(c, c)
	Same(c, Graph{Objs: []api.Val{endless(api.Con, 1, 2)}})
}

func TestText(t *testing.T) {
	for _, x := range []struct {
		g    Graph
		want string
	}{
		{Graph{}, ""}, {Graph{Roots: []Root{root("a b", "(list int)|list 'a=Nil,Cons 'a (list 'a)", 12)}}, "a b:(list int)|list 'a=Nil,Cons 'a (list 'a)=@12\n"},
		{Graph{[]Root{root("a", "", 1), root("\xFF\n", "t", 2)}, []api.Val{text("a\"\n"), con(2, pref(1), unit())}}, "a:=@1\n\xFF\n:t=@2\n@1=\"a\\\"\\x0a\"\n@2=C2(@1,())\n"},
		// As they stand.
		{Graph{[]Root{root("b", "t", -7), root("a", "t", 0)}, []api.Val{tuple(integer(-1), integer(1))}}, "b:t=@-7\na:t=@0\n@1=(-1,1)\n"},
		{Graph{Roots: []Root{root("", "", 1<<40), root("", "", math.MaxInt)}}, ":=@1099511627776\n:=@9223372036854775807\n"},
	} {
		if s := Text(x.g); s != x.want {
			t.Errorf("%q, not %q", s, x.want)
		}
	}
	var g Graph
	want := ""
	for i := range 1000 {
		g.Objs = append(g.Objs, integer(i*i))
		want += fmt.Sprintf("@%d=%d\n", i+1, i*i)
	}
	if s := Text(g); s != want {
		t.Error(s)
	}
	Text(Graph{Objs: []api.Val{endless(api.Con, 1, 2), shared(con(1)), {Kind: 99}}})
}

func TestOf(t *testing.T) {
	dir := func(l ...Root) api.Val { return directory(l...) }
	r := root("r", "t", 5)
	for i, x := range []struct {
		objs map[int]api.Val
		want api.Errno
		text string
	}{
		{nil, api.OK, ""}, {map[int]api.Val{1: dir()}, api.OK, ""}, {map[int]api.Val{5: unit(), 6: pref(9)}, api.OK, ""}, {map[int]api.Val{1: dir(), 5: pref(9)}, api.OK, ""},
		{map[int]api.Val{1: dir(r), 5: unit()}, api.OK, "r:t=@1\n@1=()\n"}, {map[int]api.Val{1: dir(r), 5: pref(5), 4: pref(1), 6: con(1, pref(100))}, api.OK, "r:t=@1\n@1=@1\n"},
		{map[int]api.Val{1: dir(root("a", "t", 7), r), 5: pref(7), 7: tuple(pref(5), pref(2)), 2: integer(2)}, api.OK, "a:t=@1\nr:t=@2\n@1=(@2,@3)\n@2=@1\n@3=2\n"},
		// Object 1 is no directory, whatever else there is.
		{map[int]api.Val{1: unit()}, api.ErrForm, ""}, {map[int]api.Val{1: con(1), 5: unit()}, api.ErrForm, ""}, {map[int]api.Val{1: dir(r, r), 5: unit()}, api.ErrForm, ""},
		{map[int]api.Val{1: dir(root("z", "t", 5), r), 5: unit()}, api.ErrForm, ""}, {map[int]api.Val{1: dir(root("", "t", 5)), 5: unit()}, api.ErrForm, ""}, {map[int]api.Val{1: pref(5)}, api.ErrForm, ""},
		{map[int]api.Val{1: dir(r)}, api.ErrMiss, ""}, {map[int]api.Val{1: dir(r), 5: pref(6), 7: unit()}, api.ErrMiss, ""}, {map[int]api.Val{1: dir(r, root("s", "", 9)), 5: unit()}, api.ErrMiss, ""},
		// The directory counts as no object.
		{map[int]api.Val{1: dir(root("r", "t", 1))}, api.ErrMiss, ""}, {map[int]api.Val{1: dir(r), 5: pref(1)}, api.ErrMiss, ""}, {map[int]api.Val{1: dir(r), 5: pref(6), 6: con(0, pref(5), pref(1))}, api.ErrMiss, ""},
	} {
		s := of(t, x.objs)
		g, e := Of(s)
		if e != x.want || Text(g) != x.text || e != api.OK && !same(g, Graph{}) {
			t.Errorf("%d: %d, not %d: %s", i, e, x.want, Text(g))
		}
	}
	for _, s := range []*store.Store{nil, new(store.Store)} {
		if g, e := Of(s); e != api.ErrArg || !same(g, Graph{}) {
			t.Error("no store", e)
		}
	}
}

// What a store is, isn't what its disk is: it tells the same without power, and nothing is written.
func TestOfChangesNothing(t *testing.T) {
	d, _ := disk.New(40)
	store.Format(d, 10)
	s, _ := store.Open(d, 10)
	dir, _ := Dir(root("r", "t", 3))
	if e := s.Apply(store.Change{Id: 1, Val: dir}, store.Change{Id: 3, Val: pref(4)}, store.Change{Id: 4, Val: text("x")}); e != api.OK {
		t.Fatal(e)
	}
	steps, ids, size := d.Steps(), s.Ids(), s.Size()
	for range 3 {
		if g, e := Of(s); e != api.OK || Text(g) != "r:t=@1\n@1=@2\n@2=\"x\"\n" {
			t.Error(e, Text(g))
		}
		if d.Steps() != steps || !slices.Equal(s.Ids(), ids) || s.Size() != size || s.Next() != 5 {
			t.Error("something is changed")
		}
		d.Arm(0)
		s.Apply(store.Change{Id: 3, Gone: true})
	}
}

// lists are all lists of a value, up to the ends of their spare room.
func lists(v api.Val, all map[*api.Val]int) {
	room := v.Kids[:cap(v.Kids)]
	for i := range room {
		all[&room[i]]++
	}
	for _, k := range v.Kids {
		lists(k, all)
	}
}

// apart: no two lists share any memory.
func apart(t *testing.T, what string, l ...[]api.Val) {
	t.Helper()
	all := map[*api.Val]int{}
	for _, vals := range l {
		lists(api.Val{Kids: vals}, all)
	}
	for _, n := range all {
		if n > 1 {
			t.Errorf("%s: two lists share memory", what)
			return
		}
	}
}

func TestNothingIsChangedOrKept(t *testing.T) {
	kids := []api.Val{pref(7), con(2, pref(5), text("t")), con(0)}
	room := append(slices.Clone(kids), text("left"), text("over"))
	roots := []Root{root("b", "t", 7), root("a", "u", 5), root("c", "v", 7), root("z", "over", 0)}
	objs := []Object{{7, con(1, room[:3]...)}, {5, con(9, room[:3]...)}, {8, con(3, room[1])}, {9, unit()}, {0, pref(0)}}
	before := fmt.Sprint(room, roots, objs)
	g, e := Make(roots[:3], objs[:4])
	dir, f := Dir(roots[:3]...)
	back, h := Roots(dir)
	if e != api.OK || f != api.OK || h != api.OK || fmt.Sprint(room, roots, objs) != before {
		t.Error("what was handed in is changed", e, f, h)
	}
	text, was := Text(g), fmt.Sprint(g, dir, back)
	Same(g, g)
	if fmt.Sprint(g, dir, back) != was {
		t.Error("what was handed in is changed")
	}
	apart(t, "Make", room, g.Objs)
	apart(t, "Dir", []api.Val{dir})
	for i := range room {
		room[i].Kids = append(room[i].Kids, unit())
		room[i].Num++
	}
	clear(roots)
	clear(objs)
	if fmt.Sprint(g, dir, back) != was || Text(g) != text {
		t.Error("what was handed in is kept")
	}
	clear(g.Roots)
	clear(dir.Kids[0].Kids)
	if back[0].Name != "a" || back[2].Name != "c" {
		t.Error("two answers share memory")
	}
}

func TestOfAnswersNewMemory(t *testing.T) {
	s := held(t, []Root{root("r", "t", 2), root("s", "t", 3)}, map[int]api.Val{2: tuple(pref(3), con(1, pref(2))), 3: tuple(pref(2), unit())})
	a, _ := Of(s)
	b, _ := Of(s)
	apart(t, "Of", a.Objs, b.Objs)
	was := Text(b)
	clear(a.Roots)
	clear(a.Objs[0].Kids)
	clear(a.Objs)
	if c, _ := Of(s); Text(b) != was || Text(c) != was {
		t.Error("two answers share memory")
	}
}

// Many objects, in a row and all named by one.
func TestMakeOfMany(t *testing.T) {
	const n = 200000
	objs := map[int]api.Val{}
	for i := range n {
		objs[i+1] = con(0, pref((i+7)%n+1), pref((i*i)%n+1))
	}
	g, e := Make([]Root{root("r", "t", 1)}, listed(objs, falling))
	if e != api.OK || len(g.Objs) != n {
		t.Fatal(e, len(g.Objs))
	}
	seen := 1
	for i, v := range g.Objs {
		for _, k := range val.Refs(v) {
			if k > seen+1 {
				t.Fatalf("object %d names %d ahead of %d", i+1, k, seen+1)
			}
			seen = max(seen, k)
		}
	}
	if seen != n {
		t.Error(seen)
	}
}
