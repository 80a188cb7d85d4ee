package graph

import (
	"fmt"
	"maps"
	"slices"
	"strings"
	"testing"

	"scriptor/api"
	"scriptor/disk"
	"scriptor/store"
	"scriptor/val"
)

func integer(n int) api.Val { return api.Val{Num: n} }
func text(s string) api.Val { return api.Val{Kind: api.Str, Text: s} }
func pref(n int) api.Val    { return api.Val{Kind: api.Pref, Num: n} }
func unit() api.Val         { return api.Val{Kind: api.Unit} }

func con(n int, kids ...api.Val) api.Val {
	return api.Val{Kind: api.Con, Num: n, Kids: kids}
}

func tuple(kids ...api.Val) api.Val {
	return api.Val{Kind: api.Tuple, Kids: kids}
}

// naming is a value that names all of these, in lists of eight.
func naming(ids ...int) api.Val {
	var l []api.Val
	for _, id := range ids {
		l = append(l, pref(id))
	}
	for len(l) > api.MaxArgs {
		var outer []api.Val
		for part := range slices.Chunk(l, api.MaxArgs) {
			outer = append(outer, con(0, slices.Clone(part)...))
		}
		l = outer
	}
	return con(0, l...)
}

// long is a value of so many bytes, with texts and last.
func long(t *testing.T, size int, last api.Val) api.Val {
	t.Helper()
	full := text(strings.Repeat("x", 4000))
	with := func(n int) api.Val { return con(0, full, full, full, text(strings.Repeat("y", n)), last) }
	// A text of 64 bytes or more has one byte more for each that it gets.
	v := with(100 + size - valBytes(with(100)))
	if valBytes(v) != size || val.Check(v) != api.OK {
		t.Fatal("there is no such value")
	}
	return v
}

// shared is a value of few lists, of which each is shared by all of the next one.
func shared(v api.Val) api.Val {
	for range 199 {
		v = con(1, slices.Repeat([]api.Val{v}, 8)...)
	}
	return v
}

// endless is a value within itself.
func endless(kind, n, kids int) api.Val {
	l := make([]api.Val, kids)
	for i := range l {
		l[i] = api.Val{Kind: kind, Num: n, Kids: l}
	}
	return l[0]
}

func root(name, typ string, id int) Root { return Root{Name: name, Type: typ, Id: id} }

// plain is a value, as Go tells it, without a difference of nil and empty lists.
func plain(v api.Val) string { return fmt.Sprintf("%v", v) }

// named is the objects that a value names, in the order in which they stand.
func named(v api.Val) []int {
	var l []int
	if v.Kind == api.Pref {
		l = append(l, v.Num)
	}
	for _, k := range v.Kids {
		l = append(l, named(k)...)
	}
	return l
}

// with is a value, that names objects by others' numbers.
func with(v api.Val, number map[int]int) api.Val {
	if v.Kind == api.Pref {
		v.Num = number[v.Num]
	}
	v.Kids = slices.Clone(v.Kids)
	for i := range v.Kids {
		v.Kids[i] = with(v.Kids[i], number)
	}
	return v
}

// again says a second time what the document says of numbers: they are given
// one by one, and for each all that has one is gone through from its beginning on.
func again(roots []Root, objs map[int]api.Val) (Graph, bool) {
	byName := map[string]Root{}
	for _, r := range roots {
		byName[r.Name] = r
	}
	var leads []int
	for _, name := range slices.Sorted(maps.Keys(byName)) {
		leads = append(leads, byName[name].Id)
	}
	number, order := map[int]int{}, []int{}
	for {
		names := slices.Clone(leads)
		for _, id := range order {
			names = append(names, named(objs[id])...)
		}
		at := slices.IndexFunc(names, func(id int) bool { return number[id] == 0 })
		if at < 0 {
			break
		}
		if _, there := objs[names[at]]; !there {
			return Graph{}, false
		}
		order = append(order, names[at])
		number[names[at]] = len(order)
	}
	var g Graph
	for _, name := range slices.Sorted(maps.Keys(byName)) {
		g.Roots = append(g.Roots, root(name, byName[name].Type, number[byName[name].Id]))
	}
	for _, id := range order {
		g.Objs = append(g.Objs, with(objs[id], number))
	}
	return g, true
}

// listed is objects in some order.
func listed(objs map[int]api.Val, less func(a, b int) int) []Object {
	var l []Object
	for _, id := range slices.SortedFunc(maps.Keys(objs), less) {
		l = append(l, Object{id, objs[id]})
	}
	return l
}

func rising(a, b int) int  { return a - b }
func falling(a, b int) int { return b - a }

// same: are two, as Go tells them?
func same(a, b Graph) bool {
	return fmt.Sprint(a.Roots) == fmt.Sprint(b.Roots) && fmt.Sprint(a.Objs) == fmt.Sprint(b.Objs)
}

// made: Make answers that graph, whatever the order of what it is given.
func made(t *testing.T, roots []Root, objs map[int]api.Val, want Graph) {
	t.Helper()
	back := slices.Clone(roots)
	slices.Reverse(back)
	for _, r := range [][]Root{roots, back} {
		for _, less := range []func(a, b int) int{rising, falling} {
			g, e := Make(r, listed(objs, less))
			if e != api.OK || !same(g, want) || !Same(g, want) {
				t.Fatalf("%d\n%s\nnot\n%s", e, Text(g), Text(want))
			}
		}
	}
}

// held is a store with such objects, 1 being the directory.
func held(t *testing.T, roots []Root, objs map[int]api.Val) *store.Store {
	t.Helper()
	dir, e := Dir(roots...)
	if e != api.OK {
		t.Fatal("a test's own directory isn't one", e)
	}
	all := maps.Clone(objs)
	all[1] = dir
	return of(t, all)
}

// of is a store with just these objects.
func of(t *testing.T, objs map[int]api.Val) *store.Store {
	t.Helper()
	d, _ := disk.New(1000)
	if e := store.Format(d, 100); e != api.OK {
		t.Fatal(e)
	}
	s, e := store.Open(d, 100)
	if e != api.OK {
		t.Fatal(e)
	}
	for _, o := range listed(objs, rising) {
		if e := s.Apply(store.Change{Id: o.Id, Val: o.Val}); e != api.OK {
			t.Fatal(e)
		}
	}
	return s
}

// dice answers numbers below n, the same ones in each run.
func dice(seed uint64) func(n int) int {
	return func(n int) int {
		seed = seed*6364136223846793005 + 1442695040888963407
		return int(seed>>33) % n
	}
}

// some is a value that names some of the objects.
func some(next func(int) int, ids []int, deep int) api.Val {
	switch k := next(8); {
	case k < 3:
		return pref(ids[next(len(ids))])
	case k == 3 || deep == 0:
		return integer(next(1000) - 500)
	case k == 4:
		return text(strings.Repeat("t", next(9)))
	case k == 5:
		return unit()
	case k == 6:
		return tuple(some(next, ids, deep-1), some(next, ids, deep-1))
	}
	v := con(next(256))
	for range next(9) {
		v.Kids = append(v.Kids, some(next, ids, deep-1))
	}
	return v
}

// someNumbers are so many, each another one, from 2 on.
func someNumbers(next func(int) int, n int) []int {
	most := []int{n + 2, 200, 20000, 1 << 30}[next(4)]
	most = max(most, n+2)
	seen := map[int]int{}
	var l []int
	for len(l) < n {
		id := 2 + next(most)
		if most == 1<<30 {
			id = 2 + next(1<<30)*1000
		}
		if seen[id]++; seen[id] == 1 {
			l = append(l, id)
		}
	}
	return l
}
