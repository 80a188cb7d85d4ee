package compact

import (
	"bytes"
	"fmt"
	"math"
	"slices"
	"strings"
	"testing"

	"scriptor/api"
	"scriptor/disk"
	"scriptor/graph"
	"scriptor/store"
	"scriptor/val"
)

func TestExample(t *testing.T) {
	for _, v := range []api.Val{integer(1), pref(5), pref(100)} {
		d, s := holding(t, 20, 10, nil, map[int]api.Val{5: v})
		if e := Run(s); e != api.OK || len(s.Ids()) != 0 || s.Next() != 1 || s.Size() != 2 {
			t.Error(e, s.Ids(), s.Next(), s.Size())
		}
		isCompacted(t, d, 10, s, graph.Graph{})
	}
}

// told is all objects of a store, as people read them.
func told(s *store.Store) string {
	var b strings.Builder
	for _, id := range s.Ids() {
		v, _ := s.Get(id)
		fmt.Fprintf(&b, "%d=%s ", id, val.Text(v))
	}
	return fmt.Sprintf("%s<%d", b.String(), s.Next())
}

func TestRun(t *testing.T) {
	for i, x := range []struct {
		roots []graph.Root
		objs  map[int]api.Val
		want  string
	}{
		{nil, nil, "<1"}, {nil, map[int]api.Val{1: con(0)}, "<1"}, {nil, map[int]api.Val{1: con(0), 7: pref(9), 8: pref(1)}, "<1"},
		{[]graph.Root{root("r", "t", 30)}, map[int]api.Val{30: integer(5)}, `1=C1(("r","t",@2),C0) 2=5 <3`},
		{[]graph.Root{root("r", "t", 2)}, map[int]api.Val{2: integer(5)}, `1=C1(("r","t",@2),C0) 2=5 <3`},
		{[]graph.Root{root("b", "t", 30), root("a", "u", 20)}, map[int]api.Val{30: tuple(pref(20), pref(9)), 20: pref(30), 9: text(2), 8: pref(9), 7: pref(8)},
			`1=C1(("a","u",@2),C1(("b","t",@3),C0)) 2=@3 3=(@2,@4) 4="tt" <5`},
		// A ring, with a ring beside it that no root leads to.
		{[]graph.Root{root("r", "", 9)}, map[int]api.Val{9: con(1, pref(8), pref(8)), 8: tuple(pref(7), pref(9)), 7: pref(7), 6: pref(5), 5: tuple(pref(6), pref(9))},
			`1=C1(("r","",@2),C0) 2=C1(@3,@3) 3=(@4,@2) 4=@4 <5`},
		{[]graph.Root{root("a", "", 1<<40), root("b", "", 1<<40)}, map[int]api.Val{1 << 40: pref(1 << 40)}, `1=C1(("a","",@2),C1(("b","",@2),C0)) 2=@2 <3`},
	} {
		d, s := holding(t, 30, 10, x.roots, x.objs)
		g := graphOf(t, s)
		// Another run changes nothing of what is there.
		for range 3 {
			if e := Run(s); e != api.OK || told(s) != x.want {
				t.Fatalf("%d: %d, %s", i, e, told(s))
			}
			isCompacted(t, d, 10, s, g)
		}
		// The store goes on: next numbers are given (1 is the directory's), and records are logged.
		next := max(s.Next(), 2)
		if e := s.Apply(store.Change{Id: next, Val: unit()}); e != api.OK || s.Next() != next+1 {
			t.Error(i, e)
		}
		s = opened(t, d, 10)
		if e := Run(s); e != api.OK {
			t.Error(i, e)
		}
		isCompacted(t, d, 10, s, g)
	}
}

func TestRunOfAny(t *testing.T) {
	next := dice(9)
	for range 300 {
		ids := []int{2, 3, 4, 5, 6, 7, 8, 9, 10, 11}[:1+next(10)]
		if next(2) > 0 {
			for i := range ids {
				ids[i] += i * next(1000)
			}
			slices.Sort(ids)
			ids = slices.Compact(ids)
		}
		objs := map[int]api.Val{}
		for _, id := range ids {
			objs[id] = some(next, ids, next(4))
		}
		log := 30 + next(20)
		d, s := holding(t, 2+log+100, log, someRoots(next, ids, 6), objs)
		g := graphOf(t, s)
		if next(2) > 0 {
			s.Checkpoint()
		}
		for range 2 {
			if e := Run(s); e != api.OK {
				t.Fatal(e)
			}
			isCompacted(t, d, log, s, g)
		}
	}
}

// unchanged: the call answers that, and nothing is another one than it was.
func unchanged(t *testing.T, what string, d *disk.Disk, s *store.Store, want api.Errno) {
	t.Helper()
	was, image, steps, size := in(s), d.Image(), d.Steps(), s.Size()
	for range 2 {
		if e := Run(s); e != want {
			t.Errorf("%s: %d, not %d", what, e, want)
		}
		if !in(s).same(was) || s.Size() != size || d.Steps() != steps || !bytes.Equal(d.Image(), image) {
			t.Errorf("%s: something is changed", what)
		}
	}
}

func TestRunRefuses(t *testing.T) {
	if Run(nil) != api.ErrArg || Run(new(store.Store)) != api.ErrArg {
		t.Error("no store")
	}
	r := root("r", "t", 5)
	for i, x := range []struct {
		objs map[int]api.Val
		want api.Errno
	}{
		{map[int]api.Val{1: unit(), 5: unit()}, api.ErrForm}, {map[int]api.Val{1: directory(r, r), 5: unit()}, api.ErrForm}, {map[int]api.Val{1: pref(5), 5: pref(6)}, api.ErrForm},
		{map[int]api.Val{1: directory(r)}, api.ErrMiss}, {map[int]api.Val{1: directory(r), 5: pref(6)}, api.ErrMiss}, {map[int]api.Val{1: directory(r), 5: pref(1)}, api.ErrMiss},
		{map[int]api.Val{1: directory(root("r", "t", 1))}, api.ErrMiss},
	} {
		d, s := holding(t, 30, 10, nil, x.objs)
		unchanged(t, fmt.Sprint(i), d, s, x.want)
	}
}

// grows are objects of which 3 names 2 so often; that is met behind so many
// others, and gets a number of two bytes when there are more than 60 of these.
func grows(hot api.Val, cold int) ([]graph.Root, map[int]api.Val) {
	objs := map[int]api.Val{2: unit(), 3: hot, 4: naming(upTo(5, 4+cold)...)}
	for id := 5; id < 5+cold; id++ {
		objs[id] = unit()
	}
	return []graph.Root{root("a", "", 4), root("b", "", 3)}, objs
}

// The new numbers may need more bytes than the old ones did.
func TestRunNeedsMoreBytes(t *testing.T) {
	fits := map[bool]int{}
	for n := 300; n < 900; n += 20 {
		roots, objs := grows(naming(times(n, 2)...), 61)
		d, s := holding(t, 2+10+2*4, 10, roots, map[int]api.Val{2: unit()})
		if e := s.Apply(changes(objs)...); e == api.ErrFull {
			break
		} else if e != api.OK {
			t.Fatal(e)
		}
		g := graphOf(t, s)
		if Size(g) <= s.Size() {
			t.Fatal("the test's own objects need less", Size(g), s.Size())
		}
		if Size(g) > s.Room() {
			fits[false]++
			unchanged(t, "ErrFull", d, s, api.ErrFull)
			continue
		}
		fits[true]++
		if e := Run(s); e != api.OK {
			t.Fatal(n, e)
		}
		isCompacted(t, d, 10, s, g)
	}
	if fits[true] < 2 || fits[false] < 2 {
		t.Error("too few of a kind", fits)
	}
}

// To the byte: room for the image, and one byte less.
func TestRunOfTheMostBytes(t *testing.T) {
	for more := range 3 {
		roots, objs := grows(naming(times(300, 2)...), 70)
		d, s := holding(t, 2+10+2*4, 10, roots, objs)
		// A text of 64 bytes or more has one byte more for each that it gets.
		s.Apply(store.Change{Id: 5, Val: text(100)})
		full := text(100 + s.Room() - Size(graphOf(t, s)) - 1 + more)
		if e := s.Apply(store.Change{Id: 5, Val: full}); e != api.OK {
			t.Fatal(e)
		}
		g := graphOf(t, s)
		if Size(g) != s.Room()-1+more {
			t.Fatal("the test's own objects", Size(g), s.Room())
		}
		if more == 2 {
			unchanged(t, "ErrFull", d, s, api.ErrFull)
			continue
		}
		if e := Run(s); e != api.OK {
			t.Fatal(e)
		}
		isCompacted(t, d, 10, s, g)
	}
}

// A value, or the directory, may become too big.
func TestRunOfBigValues(t *testing.T) {
	full := text(4000)
	hot := func(n int) api.Val { return con(0, full, full, full, text(n), naming(times(300, 2)...)) }
	b, _ := val.Encode(hot(100))
	for more := range 2 {
		fits := more == 0
		roots, objs := grows(hot(100+api.MaxValue-300-len(b)+more), 61)
		runOfBig(t, "a value", roots, objs, fits)
		roots, objs = bulky(api.MaxValue-36+more), map[int]api.Val{}
		for _, r := range roots {
			objs[r.Id] = unit()
		}
		runOfBig(t, "a directory", roots, objs, fits)
	}
}

func runOfBig(t *testing.T, what string, roots []graph.Root, objs map[int]api.Val, fits bool) {
	t.Helper()
	d, s := holding(t, 2+50+2*50, 50, roots, objs)
	g := graphOf(t, s)
	if !fits {
		unchanged(t, what, d, s, api.ErrBig)
		if Size(g) != 0 {
			t.Errorf("%s: the size of what can't be laid down: %d", what, Size(g))
		}
		return
	}
	if e := Run(s); e != api.OK {
		t.Fatal(what, e)
	}
	isCompacted(t, d, 50, s, g)
}

// bulky is 100 roots with a directory of so many bytes, and of 36 more behind a
// run: object 2, to which 37 lead, gets a number of two bytes; of the others two have such a one, then one.
func bulky(size int) []graph.Root {
	var l []graph.Root
	for i := range api.MaxRoots {
		r := root(fmt.Sprintf("r%02d", i), strings.Repeat("t", 100), 2)
		if i < 63 {
			r.Id = 3 + i
		}
		l = append(l, r)
	}
	dir, _ := graph.Dir(l...)
	b, _ := val.Encode(dir)
	for i := range size - len(b) {
		l[i%len(l)].Type += "t"
	}
	return l
}

func TestRunWithoutPower(t *testing.T) {
	d, s := holding(t, 30, 10, []graph.Root{root("r", "", 3)}, map[int]api.Val{3: unit(), 5: unit()})
	was := in(s)
	d.Arm(0)
	for range 2 {
		if e := Run(s); e != api.ErrDown || !in(s).same(was) {
			t.Error(e)
		}
	}
	// The power is back, but the store is to be opened anew.
	d.Crash()
	if e := Run(s); e != api.ErrDown {
		t.Error(e)
	}
	s = opened(t, d, 10)
	if e := Run(s); e != api.OK {
		t.Error(e)
	}
	isCompacted(t, d, 10, s, graph.Graph{Roots: []graph.Root{root("r", "", 1)}, Objs: []api.Val{unit()}})
}

// Of so many objects numbers get longer, and counts of bytes, too.
func TestSize(t *testing.T) {
	for _, n := range []int{1, 2, 60, 61, 62, 63, 64, 65, 66, 100, 127, 128, 129, 8188, 8189, 8190, 8191, 8192, 8193, 8194} {
		g := graph.Graph{Roots: []graph.Root{root("r", "t", 1)}}
		for i := range n {
			g.Objs = append(g.Objs, tuple(pref(1+(i+1)%n), text(i%200)))
		}
		if got, want := Size(g), len(compacted(g).image(t)); got != want {
			t.Errorf("%d objects: %d, not %d", n, got, want)
		}
		if n > 200 {
			continue
		}
		objs := map[int]api.Val{}
		for i, v := range g.Objs {
			objs[2+i] = moved(v)
		}
		d, s := holding(t, 2+10+2*30, 10, []graph.Root{root("r", "t", 2)}, objs)
		if e := Run(s); e != api.OK || s.Size() != Size(g) {
			t.Error(n, e, s.Size())
		}
		isCompacted(t, d, 10, s, g)
	}
	if Size(graph.Graph{}) != 2 || Size(graph.Graph{Roots: []graph.Root{}, Objs: []api.Val{}}) != 2 {
		t.Error("of no roots")
	}
	// 1 byte for the next number, one for the count; two objects: number, count, value.
	if n := Size(graph.Graph{Roots: []graph.Root{root("n", "int", 1)}, Objs: []api.Val{integer(1)}}); n != 2+(1+1+3+2+3+5+2+3)+(1+1+2) {
		t.Error(n)
	}
}

// What no store can have has no size; and each call ends.
func TestSizeOfNoGraph(t *testing.T) {
	r := root("r", "t", 1)
	var many []graph.Root
	for i := range 101 {
		many = append(many, root(fmt.Sprint(i), "", 1))
	}
	for i, g := range []graph.Graph{
		{Roots: []graph.Root{{}}}, {Roots: []graph.Root{r, r}, Objs: []api.Val{unit()}}, {Roots: many, Objs: []api.Val{unit()}}, {Roots: []graph.Root{root("", "t", 1)}}, {Roots: []graph.Root{root("r", "t", -1)}},
		{Roots: []graph.Root{root("r", "t", math.MaxInt)}}, {Roots: []graph.Root{root("r", "t", math.MinInt)}}, {Roots: []graph.Root{root("r", "t", 1<<40)}}, {Roots: []graph.Root{root(strings.Repeat("n", 41), "t", 1)}},
		{Roots: []graph.Root{root("r", strings.Repeat("t", 1001), 1)}}, {Roots: []graph.Root{r}, Objs: []api.Val{unit(), {Kind: 99}}}, {Roots: []graph.Root{r}, Objs: []api.Val{pref(0)}}, {Roots: []graph.Root{r}, Objs: []api.Val{pref(1 << 40)}},
		{Roots: []graph.Root{r}, Objs: []api.Val{endless()}}, {Roots: []graph.Root{r}, Objs: []api.Val{shared()}}, {Roots: []graph.Root{r}, Objs: []api.Val{con(1, text(4000), text(4000), text(4000), text(4000), text(400))}},
	} {
		if n := Size(g); n != 0 {
			t.Errorf("%d: %d", i, n)
		}
	}
}

// rows are all rows of up to so many jobs.
func rows(most int) [][]Job {
	l := [][]Job{nil}
	for i := 0; i < len(l); i++ {
		for _, j := range []Job{Open, Checkpoint, Compact} {
			if len(l[i]) < most {
				l = append(l, append(slices.Clone(l[i]), j))
			}
		}
	}
	return l
}

func TestWork(t *testing.T) {
	roots, objs := []graph.Root{root("b", "u", 9), root("a", "t", 7)}, map[int]api.Val{9: pref(7), 7: tuple(pref(9), pref(4)), 4: text(30), 5: pref(4)}
	d, s := holding(t, 30, 10, roots, objs)
	want := graphOf(t, s)
	for _, jobs := range rows(4) {
		c := d.Copy()
		g, e := Work(c, 10, jobs...)
		if e != api.OK || !graph.Same(g, want) {
			t.Fatalf("%v: %d\n%s", jobs, e, graph.Text(g))
		}
		// Checkpoint and Run write a half, a head, and the log's head, a barrier behind each.
		steps := 0
		for _, j := range jobs {
			if j != Open {
				steps += 9 + 1 + 1 + 3
			}
		}
		if c.Steps() != steps {
			t.Errorf("%v: %d changes, not %d", jobs, c.Steps(), steps)
		}
		s := opened(t, c, 10)
		if slices.Contains(jobs, Compact) {
			isCompacted(t, c, 10, s, want)
		} else if !in(s).same(in(opened(t, d.Copy(), 10))) {
			t.Errorf("%v: other objects", jobs)
		}
	}
}

func TestWorkRefuses(t *testing.T) {
	good, _ := holding(t, 30, 10, []graph.Root{root("r", "", 3)}, map[int]api.Val{3: unit(), 5: unit()})
	noDir, _ := holding(t, 30, 10, nil, map[int]api.Val{1: unit()})
	missed, _ := holding(t, 30, 10, []graph.Root{root("r", "", 3)}, nil)
	rotten, _ := disk.New(30)
	for i, x := range []struct {
		d    *disk.Disk
		log  int
		jobs []Job
		want api.Errno
	}{
		{good, 10, []Job{3}, api.ErrArg}, {good, 10, []Job{-1}, api.ErrArg}, {good, 10, []Job{math.MaxInt}, api.ErrArg}, {good, 10, []Job{math.MinInt, Compact}, api.ErrArg}, {good, 10, []Job{Open, 3}, api.ErrArg},
		{nil, 10, nil, api.ErrArg}, {nil, 10, []Job{Compact}, api.ErrArg}, {new(disk.Disk), 10, []Job{Open}, api.ErrArg}, {good, 2, nil, api.ErrArg}, {good, 27, []Job{Compact}, api.ErrArg}, {good, math.MaxInt, nil, api.ErrArg}, {good, math.MinInt, nil, api.ErrArg},
		{noDir, 10, nil, api.ErrForm}, {noDir, 10, []Job{Open}, api.ErrForm}, {noDir, 10, []Job{Compact}, api.ErrForm}, {missed, 10, nil, api.ErrMiss}, {missed, 10, []Job{Compact, Open}, api.ErrMiss}, {rotten, 10, nil, api.ErrRot},
		// The first one counts.
		{noDir, 10, []Job{Compact, 3}, api.ErrForm}, {noDir, 10, []Job{3, Compact}, api.ErrArg}, {noDir, 10, []Job{3}, api.ErrArg}, {missed, 10, []Job{Open, Compact, 7}, api.ErrMiss}, {rotten, 10, []Job{3}, api.ErrRot}, {rotten, 10, []Job{Compact}, api.ErrRot},
	} {
		var image []byte
		steps := 0
		if x.d != nil {
			image, steps = x.d.Image(), x.d.Steps()
		}
		g, e := Work(x.d, x.log, x.jobs...)
		if e != x.want || !graph.Same(g, graph.Graph{}) {
			t.Errorf("%d: %d, not %d: %s", i, e, x.want, graph.Text(g))
		}
		if x.d != nil && (x.d.Steps() != steps || !bytes.Equal(x.d.Image(), image)) {
			t.Errorf("%d: something is changed", i)
		}
	}
	// A disk without power; jobs ahead of one that is refused are done, those behind it aren't.
	off := good.Copy()
	off.Arm(0)
	off.Barrier()
	if g, e := Work(off, 10, 3); e != api.ErrDown || !graph.Same(g, graph.Graph{}) {
		t.Error(e)
	}
	c := good.Copy()
	if g, e := Work(c, 10, Compact, 3, Checkpoint); e != api.ErrArg || !graph.Same(g, graph.Graph{}) || c.Steps() != 9+5 {
		t.Error(e, c.Steps())
	}
	c = good.Copy()
	if _, e := Work(c, 10, 3, Compact); e != api.ErrArg || c.Steps() != 0 {
		t.Error(e, c.Steps())
	}
}

// Also where a job can't be done: the errors of Checkpoint and Run come as they are.
func TestWorkTellsTheErrorsOfJobs(t *testing.T) {
	roots, objs := grows(naming(times(560, 2)...), 61)
	d, s := holding(t, 2+10+2*4, 10, roots, nil)
	if e := s.Apply(changes(objs)...); e != api.OK {
		t.Fatal(e)
	}
	want := graphOf(t, s)
	was := in(s)
	for _, jobs := range [][]Job{{Compact}, {Checkpoint, Compact}, {Compact, Open}, {Open, Open, Compact, 9}} {
		if g, e := Work(d, 10, jobs...); e != api.ErrFull || !graph.Same(g, graph.Graph{}) {
			t.Errorf("%v: %d", jobs, e)
		}
		if g, e := Work(d, 10); e != api.OK || !graph.Same(g, want) || !in(opened(t, d, 10)).same(was) {
			t.Errorf("%v: something is changed", jobs)
		}
	}
}

func TestNothingIsChangedOrKept(t *testing.T) {
	g := graph.Graph{Roots: append(make([]graph.Root, 0, 9), root("b", "t", 2), root("a", "u", 1)), Objs: append(make([]api.Val, 0, 9), tuple(pref(2), pref(1)), con(1, pref(1)))}
	before := fmt.Sprint(g, g.Roots[:9], g.Objs[:9])
	if Size(g) == 0 || fmt.Sprint(g, g.Roots[:9], g.Objs[:9]) != before {
		t.Error("Size changes what was handed in")
	}
	jobs := append(make([]Job, 0, 9), Compact, Open, Checkpoint)
	d, _ := holding(t, 30, 10, []graph.Root{root("r", "t", 5)}, map[int]api.Val{5: tuple(pref(6), unit()), 6: pref(5)})
	a, e := Work(d, 10, jobs...)
	b, f := Work(d, 10, jobs...)
	if e != api.OK || f != api.OK || fmt.Sprint(jobs[:9]) != "[2 0 1 0 0 0 0 0 0]" {
		t.Error(e, f, jobs)
	}
	text := graph.Text(b)
	clear(a.Objs[0].Kids)
	clear(a.Objs)
	clear(a.Roots)
	if c, _ := Work(d, 10); graph.Text(b) != text || graph.Text(c) != text {
		t.Error("two answers share memory")
	}
}
