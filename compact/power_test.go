package compact

import (
	"maps"
	"slices"
	"testing"

	"scriptor/api"
	"scriptor/disk"
	"scriptor/graph"
	"scriptor/store"
)

// A disk on which the power goes: halves of three sectors, of which the image
// needs more than two, and a log with room for a few small records.
const (
	powerLog   = 8
	powerHalf  = 3
	powerDisk  = 2 + powerLog + 2*powerHalf + 1
	powerWaits = powerHalf // so many writes wait at most, but in Format
)

// powerRoots, powerObjects: two roots, a ring, what several name, and what no root leads to.
func powerRoots() []graph.Root { return []graph.Root{root("b", "u", 40), root("a", "t", 30)} }

func powerObjects() map[int]api.Val {
	return map[int]api.Val{
		40: tuple(pref(30), pref(20)), 30: con(2, pref(40), pref(30), pref(20)), 20: text(550), 22: tuple(pref(20), pref(23)), 23: pref(22), 25: text(400), 10: pref(1 << 40),
	}
}

func picks(mask, n int) []int {
	var l []int
	for i := range n {
		l = append(l, mask>>i&1)
	}
	return l
}

// thereIs opens what a crash left: the graph must be that one, and the objects one of these.
func thereIs(t *testing.T, d *disk.Disk, log int, g graph.Graph, may ...objects) objects {
	t.Helper()
	s := opened(t, d, log)
	if h := graphOf(t, s); !graph.Same(g, h) {
		t.Fatalf("another graph:\n%s", graph.Text(h))
	}
	got := in(s)
	if !slices.ContainsFunc(may, got.same) {
		t.Fatalf("other objects: %v, next %d", s.Ids(), s.Next())
	}
	return got
}

// afterOpening lets the power go in each opening behind a crash, again and again, with each pick.
func afterOpening(t *testing.T, d *disk.Disk, log int, g graph.Graph, got objects) int {
	t.Helper()
	broken := 0
	for n := range 4 {
		for mask := range 2 {
			c := d.Copy()
			for range 3 {
				c.Arm(n)
				h, e := Work(c, log)
				if e == api.ErrDown && graph.Same(h, graph.Graph{}) {
					broken++
				} else if e != api.OK || !graph.Same(h, g) {
					t.Fatal("an opening that is broken off", e)
				}
				c.Crash(mask, mask)
			}
			thereIs(t, c, log, g, got)
		}
	}
	return broken
}

// At each change the power goes, in Run and in Work, and each pick of what waits lasts.
func TestPowerGoesAtEachChange(t *testing.T) {
	base, s := holding(t, powerDisk, powerLog, powerRoots(), powerObjects())
	g := graphOf(t, s)
	ahead, behind := in(s), compacted(g)
	if n := len(behind.image(t)); n <= 512 || ahead.same(behind) {
		t.Fatal("the test's own objects", n)
	}
	run := func(d *disk.Disk) api.Errno {
		s, e := store.Open(d, powerLog)
		if e == api.OK {
			e = Run(s)
		}
		return e
	}
	work := func(jobs ...Job) func(*disk.Disk) api.Errno {
		return func(d *disk.Disk) api.Errno {
			_, e := Work(d, powerLog, jobs...)
			return e
		}
	}
	for i, do := range []func(*disk.Disk) api.Errno{
		run, work(Compact), work(Checkpoint), work(Open), work(Compact, Compact), work(Checkpoint, Compact, Open, Checkpoint, Compact, Open), work(Compact, Open, Checkpoint, Checkpoint, Compact),
	} {
		c := base.Copy()
		if do(c) != api.OK {
			t.Fatal(i, "it can't be done at all")
		}
		changes := c.Steps()
		was, is, broken := 0, 0, 0
		for n := range changes + 1 {
			for mask := range 1 << powerWaits {
				d := base.Copy()
				d.Arm(n)
				if e := do(d); (e == api.OK) != (n == changes) || e != api.OK && e != api.ErrDown {
					t.Fatal(i, n, e)
				}
				d.Crash(picks(mask, powerWaits)...)
				got := thereIs(t, d.Copy(), powerLog, g, ahead, behind)
				if got.same(ahead) {
					was++
				} else {
					is++
				}
				broken += afterOpening(t, d, powerLog, g, got)
				// Then it is done again.
				if e := run(d); e != api.OK {
					t.Fatal(i, n, e)
				}
				isCompacted(t, d, powerLog, opened(t, d, powerLog), g)
			}
		}
		if compacts := i != 2 && i != 3; was == 0 || (is > 0) != compacts || changes > 0 && broken == 0 {
			t.Error(i, "a run that isn't answered never happens, or always; or no opening is broken off", was, is, broken)
		}
	}
}

// The power goes in one run, and in the next one, too, wherever.
func TestPowerGoesTwice(t *testing.T) {
	base, s := holding(t, powerDisk, powerLog, powerRoots(), powerObjects())
	g := graphOf(t, s)
	ahead, behind := in(s), compacted(g)
	const changes = powerHalf + 1 + 1 + 1 + 1 + 1
	for first := range changes {
		for second := range changes + 2 {
			for mask := range 1 << powerWaits {
				d := base.Copy()
				d.Arm(first)
				if _, e := Work(d, powerLog, Compact); e != api.ErrDown {
					t.Fatal(first, e)
				}
				d.Crash(picks(mask, powerWaits)...)
				d.Arm(second)
				if h, e := Work(d, powerLog, Compact); e == api.OK && !graph.Same(g, h) || e != api.OK && e != api.ErrDown {
					t.Fatal(first, second, e)
				}
				d.Crash(picks(mask>>1|mask<<2, powerWaits)...)
				got := thereIs(t, d.Copy(), powerLog, g, ahead, behind)
				afterOpening(t, d, powerLog, g, got)
			}
		}
	}
}

// With a store at hand that is told nothing of the crash.
func TestAStoreThatWasBrokenOff(t *testing.T) {
	for n := range powerHalf + 5 {
		d, s := holding(t, powerDisk, powerLog, powerRoots(), powerObjects())
		g := graphOf(t, s)
		d.Arm(n)
		if e := Run(s); e != api.ErrDown {
			t.Fatal(n, e)
		}
		d.Crash()
		steps := d.Steps()
		if e := Run(s); e != api.ErrDown || d.Steps() != steps {
			t.Error(n, e)
		}
		if h, e := Work(d, powerLog, Compact); e != api.OK || !graph.Same(g, h) {
			t.Error(n, e)
		}
	}
}

// edit is some changes that leave a graph, and the graph behind them.
func edit(t *testing.T, next func(int) int, o objects) ([]store.Change, graph.Graph) {
	t.Helper()
	after := objects{o.next, maps.Clone(o.vals)}
	var ids []int
	for id := range o.vals {
		if id != 1 {
			ids = append(ids, id)
		}
	}
	slices.Sort(ids)
	fresh := max(o.next, 2)
	ids = append(ids, fresh)
	l := []store.Change{{Id: fresh, Val: some(next, ids, 2)}}
	for range next(3) {
		l = append(l, store.Change{Id: ids[next(len(ids))], Val: tuple(some(next, ids, 2), text(next(200)))})
	}
	if next(3) > 0 {
		dir, e := graph.Dir(someRoots(next, ids, 3)...)
		if e != api.OK {
			t.Fatal(e)
		}
		l = append(l, store.Change{Id: 1, Val: dir})
	}
	for _, c := range l {
		after.vals[c.Id] = c.Val
	}
	roots, _ := graph.Roots(after.vals[1])
	var objs []graph.Object
	for id, v := range after.vals {
		objs = append(objs, graph.Object{Id: id, Val: v})
	}
	g, e := graph.Make(roots, objs)
	if e != api.OK {
		t.Fatal("a test's own graph isn't one", e)
	}
	return l, g
}

// Again and again, whatever is done: the graph is that behind all changes that were answered, and perhaps one more.
func TestPowerGoesAgainAndAgain(t *testing.T) {
	next := dice(4)
	done, lost, full := 0, 0, 0
	for range 60 {
		log := 5 + next(8)
		d, s := formatted(t, 2+log+2*(1+next(3))+next(2), log)
		g := graph.Graph{}
		for range 60 {
			before := in(s)
			after, jobs := g, []Job(nil)
			if next(3) > 0 {
				d.Arm(next(25))
			}
			var e api.Errno
			if next(2) == 0 {
				var l []store.Change
				l, after = edit(t, next, before)
				e = s.Apply(l...)
			} else {
				for range 1 + next(3) {
					jobs = append(jobs, Job(next(3)))
				}
				var h graph.Graph
				if h, e = Work(d, log, jobs...); e == api.OK && !graph.Same(h, g) {
					t.Fatalf("%v: another graph", jobs)
				}
			}
			switch e {
			case api.OK:
				g = after
				done++
			case api.ErrFull:
				after = g
				full++
			case api.ErrDown:
				lost++
			default:
				t.Fatal(e)
			}
			d.Crash(picks(next(1<<8), 8)...)
			for range next(3) {
				d.Arm(next(3))
				Work(d, log, jobs...)
				d.Crash(picks(next(1<<8), 8)...)
			}
			s = opened(t, d, log)
			if h := graphOf(t, s); graph.Same(h, after) {
				g = after
			} else if !graph.Same(h, g) {
				t.Fatalf("another graph:\n%snot\n%s", graph.Text(h), graph.Text(g))
			}
			// What no root leads to grows, till there is no room.
			if e == api.ErrFull && Run(s) == api.OK {
				isCompacted(t, d, log, s, g)
			}
		}
	}
	if done == 0 || lost == 0 || full == 0 {
		t.Error("too few of a kind", done, lost, full)
	}
}
