package graph

import (
	"fmt"
	"math"
	"slices"
	"strings"
	"testing"

	"scriptor/api"
	"scriptor/val"
)

// directory says a second time what the document says of the form: l is in the order of the names.
func directory(l ...Root) api.Val {
	if len(l) == 0 {
		return con(0)
	}
	return con(1, tuple(text(l[0].Name), text(l[0].Type), pref(l[0].Id)), directory(l[1:]...))
}

// many are so many roots, by their names.
func many(n int) []Root {
	var l []Root
	for i := range n {
		l = append(l, root(fmt.Sprintf("r%04d", i), "t", 1+i))
	}
	return l
}

func TestDir(t *testing.T) {
	for i, l := range [][]Root{
		nil, {}, {root("a", "t", 1)}, {root("a", "", 5), root("b", "int", 5)},
		// Byte by byte, a shorter name ahead of a longer one that begins so.
		{root("\x00", "0", 4), root("\x00\x00", "1", 3), root("A", "2", 2), root("B", "3", 1), root("Ba", "4", 9), root("a", "5", 9), root("aB", "6", 8), root("é", "7", 7), root("\xFF", "8", 1<<40), root("\xFF\x00", "9", 1)},
		{root(strings.Repeat("n", 40), strings.Repeat("t", 1000), 1)}, many(99), many(100),
	} {
		want := directory(l...)
		for range max(len(l), 1) {
			v, e := Dir(l...)
			if e != api.OK || plain(v) != plain(want) || val.Check(v) != api.OK {
				t.Fatalf("%d: %d, %v", i, e, v)
			}
			// In each order that comes of moving the first one to the end, and back.
			l = append(slices.Clone(l[min(1, len(l)):]), l[:min(1, len(l))]...)
		}
		back := slices.Clone(l)
		slices.Reverse(back)
		if v, e := Dir(back...); e != api.OK || plain(v) != plain(want) {
			t.Errorf("%d, back: %d, %v", i, e, v)
		}
		got, e := Roots(want)
		if e != api.OK || fmt.Sprint(got) != fmt.Sprint(l) && len(l) > 0 || len(got) != len(l) {
			t.Errorf("%d: %d, %v", i, e, got)
		}
	}
}

func TestDirIsAsTextTellsIt(t *testing.T) {
	v, _ := Dir(root("b", "int", 7), root("a", "(list int)", 5))
	if s := val.Text(v); s != `C1(("a","(list int)",@5),C1(("b","int",@7),C0))` {
		t.Error(s)
	}
}

func TestDirRefuses(t *testing.T) {
	long := func(n int) string { return strings.Repeat("n", n) }
	over := append(many(100), root("z", "", 1))
	// 17 roots of 1000 bytes are more than a value may have.
	var bulky []Root
	for i := range 17 {
		bulky = append(bulky, root(long(1+i), long(1000), 1))
	}
	for i, x := range []struct {
		l    []Root
		want api.Errno
	}{
		{[]Root{root("", "t", 1)}, api.ErrForm}, {[]Root{root(long(41), "t", 1)}, api.ErrForm}, {[]Root{root(long(5000), "t", 1)}, api.ErrForm},
		{[]Root{root("a", long(1001), 1)}, api.ErrForm}, {[]Root{root("a", long(1<<20), 1)}, api.ErrForm},
		{[]Root{root("a", "t", 0)}, api.ErrForm}, {[]Root{root("a", "t", -1)}, api.ErrForm}, {[]Root{root("a", "t", 1<<40+1)}, api.ErrForm},
		{[]Root{root("a", "t", math.MaxInt)}, api.ErrForm}, {[]Root{root("a", "t", math.MinInt)}, api.ErrForm}, {[]Root{{}}, api.ErrForm},
		{[]Root{root("a", "t", 1), root("a", "t", 1)}, api.ErrForm}, {[]Root{root("a", "t", 1), root("b", "t", 1), root("a", "u", 2)}, api.ErrForm},
		{[]Root{root("a", "t", 1), root("b", "t", 0)}, api.ErrForm}, {append(many(100), root("r0050", "", 7)), api.ErrForm}, {append(many(5000), root("r0050", "", 7)), api.ErrForm},
		// What isn't in form is told ahead of what is too much.
		{append(slices.Clone(over), root("y", "", 0)), api.ErrForm}, {append(slices.Clone(over), root("y", "", 1<<40+1)), api.ErrForm}, {append(slices.Clone(bulky), root("", "", 1)), api.ErrForm}, {append(slices.Clone(bulky), bulky[3]), api.ErrForm},
		{over, api.ErrBig}, {many(1000), api.ErrBig}, {bulky, api.ErrBig}, {bulky[:16], api.OK},
	} {
		v, e := Dir(x.l...)
		if e != x.want || e != api.OK && plain(v) != plain(api.Val{}) {
			t.Errorf("%d: %d, %v", i, e, v)
		}
		// Make answers the same, whatever else is wrong.
		if x.want != api.OK {
			for _, objs := range [][]Object{nil, {{1, pref(0)}}, {{1, unit()}}} {
				if g, e := Make(x.l, objs); e != x.want || !same(g, Graph{}) {
					t.Errorf("%d: Make: %d", i, e)
				}
			}
		}
	}
}

// ofBytes is 100 roots whose directory has just so many bytes.
func ofBytes(t *testing.T, size int) []Root {
	t.Helper()
	l := many(api.MaxRoots)
	for i := range l {
		l[i].Type = strings.Repeat("t", 100)
	}
	// A type of 64 to 1000 bytes needs one more for each that it gets.
	for i := range size - valBytes(directory(l...)) {
		l[i%len(l)].Type += "t"
	}
	if valBytes(directory(l...)) != size {
		t.Fatal("there are none such")
	}
	return l
}

// valBytes is how many bytes a value has, however many these are.
func valBytes(v api.Val) int {
	number := func(n int) int {
		size := 1
		for u := uint(n)*2 ^ uint(n>>63); u >= 128; u >>= 7 {
			size++
		}
		return size
	}
	size := 1
	switch v.Kind {
	case api.Int, api.Pref:
		return size + number(v.Num)
	case api.Float, api.Str:
		return size + number(len(v.Text)) + len(v.Text)
	case api.Con:
		size += number(v.Num) + 1
	case api.Tuple:
		size++
	}
	for _, k := range v.Kids {
		size += valBytes(k)
	}
	return size
}

func TestDirOfTheMostBytes(t *testing.T) {
	for _, n := range []int{api.MaxValue - 1, api.MaxValue} {
		l := ofBytes(t, n)
		v, e := Dir(l...)
		if b, be := val.Encode(v); e != api.OK || be != api.OK || len(b) != n {
			t.Fatal(n, e, be, len(b))
		}
		if got, e := Roots(v); e != api.OK || !slices.Equal(got, l) {
			t.Error(n, e)
		}
	}
	l := ofBytes(t, api.MaxValue)
	l[7].Name += "r"
	if _, e := Dir(l...); e != api.ErrBig {
		t.Error(e)
	}
	if _, e := Roots(directory(l...)); e != api.ErrForm {
		t.Error(e)
	}
}

// others are values that differ from one in one place.
func others(v api.Val) []api.Val {
	var l []api.Val
	for _, kind := range []int{-1, 0, 1, 2, 3, 4, 5, 6, 7} {
		if kind != v.Kind {
			o := v
			o.Kind = kind
			l = append(l, o)
		}
	}
	for _, n := range []int{0, 1, 2, -1, 1 << 40, 1<<40 + 1} {
		if n != v.Num {
			o := v
			o.Num = n
			l = append(l, o)
		}
	}
	o := v
	o.Text += "x"
	l = append(l, o)
	for i := range v.Kids {
		o := v
		o.Kids = slices.Delete(slices.Clone(v.Kids), i, i+1)
		l = append(l, o)
		o.Kids = slices.Insert(slices.Clone(v.Kids), i, v.Kids[i])
		l = append(l, o)
		for _, k := range others(v.Kids[i]) {
			o.Kids = slices.Clone(v.Kids)
			o.Kids[i] = k
			l = append(l, o)
		}
	}
	o.Kids = append(slices.Clone(v.Kids), unit())
	return append(l, o)
}

// refuses: Roots answers that there are none.
func refuses(t *testing.T, v api.Val) {
	t.Helper()
	if l, e := Roots(v); e != api.ErrForm || len(l) != 0 {
		t.Errorf("%d, %v", e, l)
	}
}

// What differs from a directory in one place is another directory, or none.
func TestRootsOfOtherValues(t *testing.T) {
	none, some := 0, 0
	for _, v := range others(directory(root("a", "t", 1), root("c", "u", 3), root("e", "", 1))) {
		l, e := Roots(v)
		switch {
		case e == api.OK && plain(directory(l...)) == plain(v) && slices.IsSortedFunc(l, func(a, b Root) int { return strings.Compare(a.Name, b.Name) }):
			some++
		case e == api.ErrForm && len(l) == 0:
			none++
		default:
			t.Errorf("%v: %d, %v", v, e, l)
		}
	}
	// Of each root: another name (but not those of others), another type, five other numbers that are an object's or none;
	// an object's number 2^40 is one, 0, -1 and 2^40 + 1 aren't.
	if want := 3*(1+1) + 2 + 3 + 2; some != want || none < 100 {
		t.Error(some, none)
	}
}

func TestNoRoots(t *testing.T) {
	a, b := root("a", "t", 1), root("b", "t", 2)
	for _, v := range []api.Val{
		{}, {Num: 1}, unit(), pref(1), text(""), con(1), con(2), con(0, unit()), con(0, con(0)), con(1, con(0)), con(1, con(0), con(0)), tuple(con(0), con(0)),
		{Kind: api.Con, Text: "x"}, {Kind: 99}, {Kind: -1},
		directory(b, a), directory(a, a), directory(a, b, a), directory(a, root("a", "u", 2)),
		directory(root("", "t", 1)), directory(root(strings.Repeat("n", 41), "t", 1)), directory(root("a", strings.Repeat("t", 1001), 1)),
		directory(root("a", "t", 0)), directory(root("a", "t", -1)), directory(root("a", "t", 1<<40+1)), directory(root("a", "t", math.MaxInt)),
		directory(many(101)...), directory(many(5000)...), con(1, tuple(text("a"), text("t"), pref(1), con(0))),
		con(1, tuple(text("a"), text("t")), con(0)), con(1, con(0, text("a"), text("t"), pref(1)), con(0)), con(1, tuple(text("a"), text("t"), integer(1)), con(0)),
		con(1, con(0), tuple(text("a"), text("t"), pref(1))), con(1, tuple(text("a"), text("t"), pref(1)), con(0), con(0)), con(1, tuple(text("a"), text("t"), pref(1)), con(2)),
		con(1, tuple(text("a"), text("t"), pref(1)), unit()), con(2, tuple(text("a"), text("t"), pref(1)), con(0)), shared(con(1)), shared(con(0)),
	} {
		refuses(t, v)
	}
	for kids := 1; kids < 5; kids++ {
		for kind := range 7 {
			for n := range 2 {
				refuses(t, endless(kind, n, kids))
			}
		}
	}
	// A directory that goes on in itself, and one that stands in its root.
	l := []api.Val{tuple(text("a"), text("t"), pref(1)), con(0)}
	l[1] = con(1, l...)
	l[1].Kids = l
	refuses(t, l[1])
	in := []api.Val{text("a"), text("t"), pref(1)}
	in[0].Kids = in
	refuses(t, con(1, tuple(in...), con(0)))
	refuses(t, con(1, api.Val{Kind: api.Tuple, Kids: []api.Val{text("a"), text("t"), shared(pref(1))}}, con(0)))
}

func TestRootsOfNone(t *testing.T) {
	for _, v := range []api.Val{con(0), {Kind: api.Con, Kids: []api.Val{}}} {
		if l, e := Roots(v); e != api.OK || len(l) != 0 {
			t.Error(l, e)
		}
	}
}
