package match

import (
	"fmt"
	"math/rand"
	"reflect"
	"slices"
	"testing"

	"scriptor/api"
)

// The model says a second time what the chapter says of patterns: a value is
// held against one row after the other; trees are gone along with every place
// that was asked in mind.

func matches(p Pat, v api.Val) bool {
	kids := func() bool {
		for i := range p.Kids {
			if len(v.Kids) != len(p.Kids) || !matches(p.Kids[i], v.Kids[i]) {
				return false
			}
		}
		return len(v.Kids) == len(p.Kids)
	}
	switch p.Op {
	case 0, 1:
		return true
	case 2:
		return v.Kind == api.Int && v.Num == p.Num
	case 3:
		return v.Kind == api.Str && v.Text == p.Text
	case 4:
		return v.Kind == api.Unit
	case 5:
		return v.Kind == api.Con && v.Num == p.Num && kids()
	case 6:
		return v.Kind == api.Tuple && kids()
	}
	panic(p.Op)
}

func first(rows []Pat, v api.Val) int {
	return slices.IndexFunc(rows, func(p Pat) bool { return matches(p, v) })
}

// size is how many parts patterns have, they themselves among them or not.
func size(rows []Pat, themselves int) int {
	n := 0
	for _, p := range rows {
		n += themselves
		if p.Op == 5 || p.Op == 6 {
			n += size(p.Kids, 1)
		}
	}
	return n
}

// checkTree: is it a tree as the chapter says, for so many rows?
func checkTree(t *testing.T, x Tree, rows int) {
	t.Helper()
	var walk func(x Tree, there map[string]int)
	walk = func(x Tree, there map[string]int) {
		if x.Leaf {
			if x.Num < -1 || x.Num >= rows || x.Path != nil || x.Tests != nil || x.Kids != nil {
				t.Fatalf("no answer: %+v", x)
			}
			return
		}
		place := fmt.Sprint(x.Path)
		if _, ok := there[place]; ok {
			t.Fatalf("%s is asked twice", place)
		}
		if n := len(x.Path); n > 0 && there[fmt.Sprint(x.Path[:n-1])] <= x.Path[n-1] {
			t.Fatalf("nothing says that %s is there", place)
		}
		if x.Num != 0 || len(x.Tests) == 0 || len(x.Kids) != len(x.Tests)+1 {
			t.Fatalf("no question: %d, %d, %d", x.Num, len(x.Tests), len(x.Kids))
		}
		for i, k := range x.Kids {
			there[place] = 0
			if i < len(x.Tests) {
				checkTest(t, x.Tests[i])
				there[place] = len(x.Tests[i].Kids)
			}
			walk(k, there)
		}
		delete(there, place)
	}
	walk(x, map[string]int{})
}

func checkTest(t *testing.T, p Pat) {
	t.Helper()
	bare := Pat{Op: p.Op}
	switch p.Op {
	case 2:
		bare.Num = p.Num
	case 3:
		bare.Text = p.Text
	case 4:
	case 5:
		bare.Num, bare.Kids = p.Num, slices.Repeat([]Pat{{}}, len(p.Kids))
	case 6:
		bare.Kids = slices.Repeat([]Pat{{}}, len(p.Kids))
	default:
		t.Fatalf("no test: %+v", p)
	}
	if len(bare.Kids) == 0 {
		bare.Kids = nil
	}
	if !reflect.DeepEqual(p, bare) {
		t.Fatalf("a test has more than it should: %+v", p)
	}
}

// along is the way of a value through a tree.
func along(x Tree, v api.Val) (int, [][]int) {
	var asked [][]int
	for !x.Leaf {
		asked = append(asked, x.Path)
		part := v
		for _, i := range x.Path {
			part = part.Kids[i]
		}
		next := first(x.Tests, part)
		if next < 0 {
			next = len(x.Tests)
		}
		x = x.Kids[next]
	}
	return x.Num, asked
}

// checkRows: do all values come where they should?
func checkRows(t *testing.T, rows []Pat, values ...api.Val) {
	t.Helper()
	x, e := Compile(rows...)
	if e != api.OK {
		t.Fatalf("%.300s: %d", fmt.Sprint(rows), e)
	}
	checkTree(t, x, len(rows))
	for _, v := range values {
		n, asked := Run(x, v)
		m, ways := along(x, v)
		if want := first(rows, v); n != want || m != want {
			t.Fatalf("%.300s: %.300s comes to %d, not %d", fmt.Sprint(rows), fmt.Sprint(v), n, want)
		}
		if !slices.EqualFunc(asked, ways, slices.Equal) {
			t.Fatalf("%.300s: of %.300s was asked %v, not %v", fmt.Sprint(rows), fmt.Sprint(v), asked, ways)
		}
	}
}

// maker makes patterns and values by chance.
type maker struct{ *rand.Rand }

func newMaker(seed int) maker { return maker{rand.New(rand.NewSource(int64(seed)))} }

func (m maker) pick(l ...string) string { return l[m.Intn(len(l))] }

// pat is at most so deep. What plays no part of it is anything.
func (m maker) pat(deep int) Pat {
	noise := func(p Pat) Pat {
		if m.Intn(4) > 0 {
			return p
		}
		q := Pat{Op: p.Op, Num: m.Intn(3) - 1, Text: m.pick("", "a", "x"), Kids: []Pat{{Op: 99}, {Op: Con, Num: -1}}[:m.Intn(3)]}
		switch p.Op {
		case 2:
			q.Num = p.Num
		case 1, 3:
			q.Text = p.Text
		case 5:
			q.Num, q.Kids = p.Num, p.Kids
		case 6:
			q.Kids = p.Kids
		}
		return q
	}
	kids := func() []Pat {
		var l []Pat
		for range m.Intn(4) {
			l = append(l, m.pat(deep-1))
		}
		return l
	}
	if deep > 0 && m.Intn(3) > 0 {
		if m.Intn(3) == 0 {
			return noise(Pat{Op: Tuple, Kids: kids()})
		}
		return noise(Pat{Op: Con, Num: m.Intn(2), Kids: kids()})
	}
	return noise([]Pat{{}, {}, {Op: Var, Text: m.pick("x", "y")}, {Op: Int, Num: m.Intn(2)}, {Op: Str, Text: m.pick("", "a")}, {Op: Unit}, {Op: Con, Num: m.Intn(3)}}[m.Intn(7)])
}

// val is any value, at most so deep.
func (m maker) val(deep int) api.Val {
	v := api.Val{Kind: m.Intn(9) - 1, Num: m.Intn(3) - 1, Text: m.pick("", "a", "x")}
	if deep > 0 {
		for range m.Intn(4) {
			v.Kids = append(v.Kids, m.val(deep-1))
		}
	}
	return v
}

// like is a value that matches a pattern, or nearly.
func (m maker) like(p Pat) api.Val {
	if m.Intn(12) == 0 {
		return m.val(2)
	}
	v := m.val(0)
	switch p.Op {
	case 0, 1:
		return m.val(2)
	case 2:
		v.Kind, v.Num = api.Int, p.Num
	case 3:
		v.Kind, v.Text = api.Str, p.Text
	case 4:
		v.Kind = api.Unit
	case 5:
		v.Kind, v.Num = api.Con, p.Num
	case 6:
		v.Kind = api.Tuple
	}
	if p.Op == 5 || p.Op == 6 {
		for _, k := range p.Kids {
			v.Kids = append(v.Kids, m.like(k))
		}
		if m.Intn(20) == 0 {
			v.Kids = append(v.Kids, m.val(1))
		}
	}
	return v
}

// rows are such of at most so many parts together.
func (m maker) rows(count, deep, most int) []Pat {
	var l []Pat
	for range count {
		if p := m.pat(deep); size(append(slices.Clone(l), p), 1) <= most {
			l = append(l, p)
		}
	}
	return l
}

// TestRowsByChance: of many rows, and many values that nearly match one.
func TestRowsByChance(t *testing.T) {
	ends := map[int]int{}
	for seed := range 3000 {
		m := newMaker(seed)
		rows := m.rows(1+m.Intn(30), 1+m.Intn(5), 300)
		if m.Intn(2) == 0 {
			// One that takes all leaves nothing to those behind it.
			rows = slices.DeleteFunc(rows, func(p Pat) bool { return p.Op < 2 })
		}
		var values []api.Val
		for _, p := range rows {
			values = append(values, m.like(p), m.like(p), m.val(3))
		}
		checkRows(t, rows, values...)
		for _, v := range values {
			ends[min(first(rows, v), 9)]++
		}
	}
	for i := -1; i <= 9; i++ {
		if ends[i] < 500 {
			t.Errorf("row %d is tried %d times only", i, ends[i])
		}
	}
}

// TestWideRows: of rows with many columns, of which each asks for some.
func TestWideRows(t *testing.T) {
	for seed := range 60 {
		m := newMaker(seed)
		cols := []int{3, 8, 16, 30}[m.Intn(4)]
		var rows []Pat
		for range 300 / (cols + 1) {
			p := Pat{Op: 6}
			for range cols {
				k := Pat{}
				if m.Intn(2) == 0 {
					k = Pat{Op: Int, Num: m.Intn(2)}
				}
				p.Kids = append(p.Kids, k)
			}
			rows = append(rows, p)
		}
		var values []api.Val
		for range 300 {
			v := api.Val{Kind: api.Tuple}
			for range cols {
				v.Kids = append(v.Kids, api.Val{Num: m.Intn(2)})
			}
			values = append(values, v)
		}
		checkRows(t, rows, values...)
	}
}
