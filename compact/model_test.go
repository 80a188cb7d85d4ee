package compact

import (
	"bytes"
	"encoding/binary"
	"maps"
	"slices"
	"strings"
	"testing"

	"scriptor/api"
	"scriptor/disk"
	"scriptor/graph"
	"scriptor/store"
	"scriptor/val"
)

func integer(n int) api.Val { return api.Val{Num: n} }
func text(n int) api.Val    { return api.Val{Kind: api.Str, Text: strings.Repeat("t", n)} }
func pref(n int) api.Val    { return api.Val{Kind: api.Pref, Num: n} }
func unit() api.Val         { return api.Val{Kind: api.Unit} }

func con(n int, kids ...api.Val) api.Val {
	return api.Val{Kind: api.Con, Num: n, Kids: kids}
}

func tuple(kids ...api.Val) api.Val {
	return api.Val{Kind: api.Tuple, Kids: kids}
}

func root(name, typ string, id int) graph.Root { return graph.Root{Name: name, Type: typ, Id: id} }

// naming is a value that names all of these, in lists of eight.
func naming(ids ...int) api.Val {
	var l []api.Val
	for _, id := range ids {
		l = append(l, pref(id))
	}
	for len(l) > api.MaxArgs {
		var outer []api.Val
		for part := range slices.Chunk(l, api.MaxArgs) {
			outer = append(outer, con(0, slices.Clone(part)...))
		}
		l = outer
	}
	return con(0, l...)
}

// times is a number, so often.
func times(n, id int) []int { return slices.Repeat([]int{id}, n) }

// upTo is the numbers from one to another.
func upTo(least, most int) []int {
	var l []int
	for n := least; n <= most; n++ {
		l = append(l, n)
	}
	return l
}

// endless is a value within itself; shared is one of few lists, of which each is shared by all of the next one.
func endless() api.Val {
	l := make([]api.Val, 2)
	l[0] = con(1, l...)
	l[1] = con(1, l...)
	return l[0]
}

func shared() api.Val {
	v := unit()
	for range 199 {
		v = con(1, slices.Repeat([]api.Val{v}, 8)...)
	}
	return v
}

// The functions from here to image say a second time what the document says of what is laid down.

func directory(l ...graph.Root) api.Val {
	if len(l) == 0 {
		return con(0)
	}
	name, typ := api.Val{Kind: api.Str, Text: l[0].Name}, api.Val{Kind: api.Str, Text: l[0].Type}
	return con(1, tuple(name, typ, pref(l[0].Id)), directory(l[1:]...))
}

// moved is a value in which each object is named by the next number.
func moved(v api.Val) api.Val {
	if v.Kind == api.Pref {
		v.Num++
	}
	v.Kids = slices.Clone(v.Kids)
	for i := range v.Kids {
		v.Kids[i] = moved(v.Kids[i])
	}
	return v
}

// objects are all that there is, and the next number.
type objects struct {
	next int
	vals map[int]api.Val
}

func compacted(g graph.Graph) objects {
	if len(g.Roots) == 0 {
		return objects{1, nil}
	}
	roots := slices.Clone(g.Roots)
	for i := range roots {
		roots[i].Id++
	}
	o := objects{len(g.Objs) + 2, map[int]api.Val{1: directory(roots...)}}
	for i, v := range g.Objs {
		o.vals[i+2] = moved(v)
	}
	return o
}

func number(n int) []byte { return binary.AppendVarint(nil, int64(n)) }

func (o objects) image(t *testing.T) []byte {
	t.Helper()
	b := append(number(o.next), number(len(o.vals))...)
	for _, id := range slices.Sorted(maps.Keys(o.vals)) {
		v, e := val.Encode(o.vals[id])
		if e != api.OK {
			t.Fatal("a test's own value isn't in form", e)
		}
		b = append(append(append(b, number(id)...), number(len(v))...), v...)
	}
	return b
}

// in is all that a store has.
func in(s *store.Store) objects {
	o := objects{s.Next(), map[int]api.Val{}}
	for _, id := range s.Ids() {
		o.vals[id], _ = s.Get(id)
	}
	return o
}

func (o objects) same(p objects) bool {
	return o.next == p.next && maps.EqualFunc(o.vals, p.vals, val.Same)
}

// formatted is a disk with a store, and nothing else.
func formatted(t *testing.T, count, log int) (*disk.Disk, *store.Store) {
	t.Helper()
	d, e := disk.New(count)
	if e != api.OK || store.Format(d, log) != api.OK {
		t.Fatal("Format", e)
	}
	return d, opened(t, d, log)
}

func opened(t *testing.T, d *disk.Disk, log int) *store.Store {
	t.Helper()
	s, e := store.Open(d, log)
	if e != api.OK {
		t.Fatal("Open", e)
	}
	return s
}

// holding is a store with these objects, and, if there are roots, a directory as object 1.
func holding(t *testing.T, count, log int, roots []graph.Root, objs map[int]api.Val) (*disk.Disk, *store.Store) {
	t.Helper()
	d, s := formatted(t, count, log)
	l := changes(objs)
	if len(roots) > 0 {
		dir, e := graph.Dir(roots...)
		if e != api.OK {
			t.Fatal("Dir", e)
		}
		l = append(l, store.Change{Id: 1, Val: dir})
	}
	for _, c := range l {
		if e := s.Apply(c); e != api.OK {
			t.Fatal("Apply", e)
		}
	}
	return d, s
}

func changes(objs map[int]api.Val) []store.Change {
	var l []store.Change
	for _, id := range slices.Sorted(maps.Keys(objs)) {
		l = append(l, store.Change{Id: id, Val: objs[id]})
	}
	return l
}

// graphOf is a store's graph, which must be one.
func graphOf(t *testing.T, s *store.Store) graph.Graph {
	t.Helper()
	g, e := graph.Of(s)
	if e != api.OK {
		t.Fatal("Of", e)
	}
	return g
}

// isCompacted: has the store just the graph, here and opened anew, byte by byte?
func isCompacted(t *testing.T, d *disk.Disk, log int, s *store.Store, g graph.Graph) {
	t.Helper()
	want := compacted(g)
	image := want.image(t)
	if n := Size(g); n != len(image) {
		t.Fatalf("Size %d, not %d", n, len(image))
	}
	for _, s := range []*store.Store{s, opened(t, d.Copy(), log)} {
		if !in(s).same(want) || s.Size() != len(image) || !graph.Same(graphOf(t, s), g) {
			t.Fatalf("%v, next %d, %d bytes, not %d and %d:\n%s", s.Ids(), s.Next(), s.Size(), want.next, len(image), graph.Text(graphOf(t, s)))
		}
	}
	b := d.Image()
	half := (d.Count() - 2 - log) / 2
	for k := range 2 {
		if bytes.Equal(b[(2+log+k*half)*api.Sector:][:len(image)], image) {
			return
		}
	}
	t.Fatal("the image stands in neither half")
}

// dice answers numbers below n, the same ones in each run.
func dice(seed uint64) func(n int) int {
	return func(n int) int {
		seed = seed*6364136223846793005 + 1442695040888963407
		return int(seed>>33) % n
	}
}

// some is a value that names some of the objects.
func some(next func(int) int, ids []int, deep int) api.Val {
	switch k := next(7); {
	case k < 3:
		return pref(ids[next(len(ids))])
	case k == 3 || deep == 0:
		return integer(next(1000) - 500)
	case k == 4:
		return text(next(9))
	case k == 5:
		return tuple(some(next, ids, deep-1), some(next, ids, deep-1))
	}
	v := con(next(256))
	for range next(9) {
		v.Kids = append(v.Kids, some(next, ids, deep-1))
	}
	return v
}

// someRoots lead to some of the objects.
func someRoots(next func(int) int, ids []int, most int) []graph.Root {
	var l []graph.Root
	for i := range next(most + 1) {
		l = append(l, root(string(rune('a'+i*5%most)), strings.Repeat("y", next(9)), ids[next(len(ids))]))
	}
	return l
}
