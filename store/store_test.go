package store

import (
	"bytes"
	"fmt"
	"math"
	"slices"
	"testing"

	"scriptor/api"
	"scriptor/disk"
	"scriptor/val"
)

func TestExample(t *testing.T) {
	d, s := formatted(t, 20, 6)
	if s.Apply(set(1, integer(5))) != api.OK {
		t.Fatal("Apply")
	}
	s = opened(t, d, 6)
	if v, e := s.Get(1); e != api.OK || !val.Same(v, integer(5)) || s.Next() != 2 {
		t.Error(v, e, s.Next())
	}
	if s.Apply(gone(1)) != api.OK {
		t.Fatal("Apply")
	}
	for _, s := range []*Store{s, opened(t, d, 6)} {
		if _, e := s.Get(1); e != api.ErrMiss || s.Next() != 2 || len(s.Ids()) != 0 {
			t.Error(e, s.Next(), s.Ids())
		}
	}
}

func TestApply(t *testing.T) {
	d, s := formatted(t, 40, 20)
	m := empty()
	for i, l := range [][]Change{
		{set(3, integer(1))}, {set(1, pref(2)), set(2, pref(9))}, {gone(3)}, {gone(3)}, {set(3, integer(2))}, {set(3, text(50))}, nil,
		// One behind the other.
		{set(4, integer(1)), set(4, integer(2)), gone(5)}, {set(4, integer(3)), gone(4)}, {gone(4), set(4, integer(4))}, {gone(2), gone(2), set(7, text(0)), gone(1)},
		{set(1<<40, integer(1))}, {gone(1 << 40)}, {set(1, api.Val{Kind: api.Con, Num: 1, Kids: []api.Val{integer(1), pref(1 << 40)}})},
	} {
		if e := s.Apply(l...); e != api.OK {
			t.Fatal(i, e)
		}
		m = m.behind(l...)
		has(t, s, m)
		has(t, opened(t, d, 20), m)
	}
	if s.Next() != 1<<40+1 {
		t.Error(s.Next())
	}
}

func TestNothingIsDoneOfNoChanges(t *testing.T) {
	d, s := formatted(t, 7, 3)
	image, steps := d.Image(), d.Steps()
	if s.Apply() != api.OK || s.Apply([]Change{}...) != api.OK || d.Steps() != steps || !bytes.Equal(d.Image(), image) {
		t.Error("something is done")
	}
}

func TestGet(t *testing.T) {
	_, s := formatted(t, 20, 6)
	s.Apply(set(1, integer(1)), set(9, integer(9)), set(5, text(3)), gone(7))
	for _, n := range []int{0, -1, 2, 7, 8, 10, math.MinInt, math.MaxInt, 1 << 40} {
		if v, e := s.Get(n); e != api.ErrMiss || !val.Same(v, api.Val{}) {
			t.Errorf("%d: %v, %d", n, v, e)
		}
	}
	if ids := s.Ids(); !slices.Equal(ids, []int{1, 5, 9}) || s.Next() != 10 {
		t.Error(ids, s.Next())
	}
}

// A log has room for so many records; then the objects are laid down first.
func TestApplyGoesOnForever(t *testing.T) {
	for log := 4; log < 9; log++ {
		d, s := formatted(t, 2+log+12, log)
		m := empty()
		for i := range 60 {
			l := []Change{set(1+i%7, text(i*7%400)), gone(1 + i%5)}
			if e := s.Apply(l...); e != api.OK {
				t.Fatal(log, i, e)
			}
			m = m.behind(l...)
			lasts(t, d, log, m)
		}
		if log == 4 && s.head.turn != 60 {
			t.Error("with room for one record each needs a checkpoint, but the first", s.head.turn)
		}
	}
}

func TestCheckpoint(t *testing.T) {
	d, s := formatted(t, 20, 6)
	m := empty()
	for i := range 9 {
		if e := s.Checkpoint(); e != api.OK {
			t.Fatal(i, e)
		}
		has(t, s, m)
		has(t, opened(t, d, 6), m)
		if i%3 > 0 {
			s.Apply(set(i, integer(i)))
			m = m.behind(set(i, integer(i)))
		}
	}
}

func TestReplace(t *testing.T) {
	d, s := formatted(t, 20, 6)
	s.Apply(set(1, integer(1)), set(50, text(100)))
	for i, x := range []struct {
		next int
		l    []Change
		want map[int]api.Val
	}{
		{4, []Change{set(2, text(9)), set(3, pref(2))}, map[int]api.Val{2: text(9), 3: pref(2)}},
		{1, nil, nil}, {1 << 41, nil, nil}, {77, nil, nil},
		{2, []Change{set(1, integer(1)), set(1, integer(2))}, map[int]api.Val{1: integer(2)}},
		{10, []Change{set(1, integer(1)), gone(1), gone(9), set(2, integer(2))}, map[int]api.Val{2: integer(2)}},
		{1<<40 + 1, []Change{gone(1 << 40)}, nil}, {1 << 41, []Change{set(1<<40, integer(1))}, map[int]api.Val{1 << 40: integer(1)}},
	} {
		if e := s.Replace(x.next, x.l...); e != api.OK {
			t.Fatal(i, e)
		}
		m := model{x.next, x.want}
		has(t, s, m)
		has(t, opened(t, d, 6), m)
		l := []Change{set(1, integer(i)), gone(2)}
		if e := s.Apply(l...); e != api.OK {
			t.Fatal(i, e)
		}
		lasts(t, d, 6, model{x.next, x.want}.filled().behind(l...))
	}
}

// filled is a model whose map can be written.
func (m model) filled() model {
	if m.vals == nil {
		m.vals = map[int]api.Val{}
	}
	return m
}

// unchanged: the call answers that, and neither the disk nor the store has changed.
func unchanged(t *testing.T, what string, d *disk.Disk, s *Store, m model, want api.Errno, call func() api.Errno) {
	t.Helper()
	image, steps := d.Image(), d.Steps()
	if e := call(); e != want {
		t.Errorf("%s: %d, not %d", what, e, want)
	}
	if d.Steps() != steps || !bytes.Equal(d.Image(), image) {
		t.Errorf("%s: the disk is another", what)
	}
	if diff := m.differs(s); diff != "" {
		t.Errorf("%s: %s is another", what, diff)
	}
}

func tooBig() api.Val {
	return api.Val{Kind: api.Con, Kids: []api.Val{text(4096), text(4096), text(4096), text(4096)}}
}

func noForm() api.Val { return api.Val{Kind: 9} }

// Errors in their order: each list has what is wrong for all that come behind, too.
func TestWrongChanges(t *testing.T) {
	d, s := formatted(t, 14, 6)
	m := empty().behind(set(1, integer(1)))
	s.Apply(set(1, integer(1)))
	for what, x := range map[string]struct {
		l    []Change
		want api.Errno
	}{
		"object 0": {[]Change{set(0, integer(1))}, api.ErrArg}, "object -1": {[]Change{set(-1, integer(1))}, api.ErrArg}, "beyond 2^40": {[]Change{set(1<<40+1, integer(1))}, api.ErrArg},
		"0 is gone": {[]Change{gone(0)}, api.ErrArg}, "the greatest": {[]Change{gone(math.MaxInt)}, api.ErrArg}, "the least": {[]Change{gone(math.MinInt)}, api.ErrArg},
		"the last one":  {[]Change{set(1, tooBig()), set(2, noForm()), set(3, text(4000)), set(0, integer(1))}, api.ErrArg},
		"no form":       {[]Change{set(2, noForm())}, api.ErrForm},
		"too big":       {[]Change{set(2, tooBig())}, api.ErrBig},
		"the first":     {[]Change{set(2, tooBig()), set(3, noForm())}, api.ErrBig},
		"the first too": {[]Change{set(2, noForm()), set(3, tooBig())}, api.ErrForm},
		"ahead of full": {[]Change{set(2, text(4000)), set(3, noForm())}, api.ErrForm},
		"overwritten":   {[]Change{set(2, noForm()), set(2, integer(1))}, api.ErrForm},
		"taken away":    {[]Change{set(2, tooBig()), gone(2)}, api.ErrBig},
		"full":          {[]Change{set(2, text(2000))}, api.ErrFull},
		"a long record": {[]Change{set(2, text(1000)), set(2, text(1000)), set(2, integer(1))}, api.ErrFull},
	} {
		unchanged(t, what, d, s, m, x.want, func() api.Errno { return s.Apply(x.l...) })
		// A next number that is wrong comes ahead of a value that is.
		for _, next := range []int{math.MinInt, -1, 0, 1, 3, 1<<41 + 1, math.MaxInt} {
			unchanged(t, what+", Replace", d, s, m, api.ErrArg, func() api.Errno { return s.Replace(next, append(slices.Clone(x.l), gone(3))...) })
		}
		// Replace makes no record.
		if what != "a long record" {
			unchanged(t, what+", Replace", d, s, m, x.want, func() api.Errno { return s.Replace(1<<41, x.l...) })
		}
	}
	for _, x := range []struct {
		next int
		l    []Change
	}{{0, nil}, {-1, nil}, {math.MinInt, nil}, {1<<41 + 1, nil}, {math.MaxInt, nil}, {4, []Change{set(4, integer(1))}}, {4, []Change{set(4, integer(1)), gone(4)}}, {4, []Change{gone(9), set(3, integer(1))}}, {1 << 40, []Change{gone(1 << 40)}}} {
		unchanged(t, "Replace", d, s, m, api.ErrArg, func() api.Errno { return s.Replace(x.next, x.l...) })
	}
	// What is gone has no value, whatever stands there.
	if e := s.Apply(Change{Id: 2, Val: noForm(), Gone: true}, Change{Id: 3, Val: tooBig(), Gone: true}); e != api.OK {
		t.Error(e)
	}
	if e := s.Replace(9, Change{Id: 2, Val: noForm(), Gone: true}, set(1, integer(1))); e != api.OK {
		t.Error(e)
	}
	lasts(t, d, 6, model{9, map[int]api.Val{1: integer(1)}})
}

// The image may have as many bytes as a half, and not one more.
func TestRoom(t *testing.T) {
	for half := 1; half < 4; half++ {
		d, s := formatted(t, 2+20+2*half, 20)
		room := half * api.Sector
		if s.Room() != room || s.Size() != 2 {
			t.Fatal(s.Room(), s.Size())
		}
		m, fits := empty(), -1
		for size := range room {
			if len(m.behind(set(1, text(size))).image()) <= room {
				fits = size
			}
		}
		l := []Change{set(1, text(fits))}
		unchanged(t, "one more", d, s, m, api.ErrFull, func() api.Errno { return s.Apply(set(1, text(fits+1))) })
		unchanged(t, "one more", d, s, m, api.ErrFull, func() api.Errno { return s.Replace(2, set(1, text(fits+1))) })
		if e := s.Apply(l...); e != api.OK {
			t.Fatal(e)
		}
		m = m.behind(l...)
		lasts(t, d, 20, m)
		unchanged(t, "no room", d, s, m, api.ErrFull, func() api.Errno { return s.Apply(set(2, integer(1))) })
		unchanged(t, "no room for the number", d, s, m, api.ErrFull, func() api.Errno { return s.Apply(gone(1 << 30)) })
		// One goes, the other comes: what is there behind them counts.
		l = []Change{set(2, text(fits)), set(3, text(fits)), gone(3), gone(1)}
		if e := s.Apply(l...); e != api.OK {
			t.Fatal(e)
		}
		m = m.behind(l...)
		lasts(t, d, 20, m)
		if s.Checkpoint() != api.OK || s.Checkpoint() != api.OK {
			t.Error("Checkpoint")
		}
		lasts(t, d, 20, m)
		if e := s.Replace(2, set(1, text(fits))); e != api.OK {
			t.Error(e)
		}
		lasts(t, d, 20, model{2, map[int]api.Val{1: text(fits)}})
	}
}

// From 64 objects on their count has two bytes.
func TestTheCountHasBytesToo(t *testing.T) {
	d, s := formatted(t, 2+20+2, 20)
	var l []Change
	for n := range 63 {
		l = append(l, set(1+n, integer(0)))
	}
	// All numbers up to 63 have one byte; with this text the image has no byte left.
	m := empty().behind(l...)
	left := api.Sector - len(m.image())
	l = append(l, set(1, text(left-2)))
	m = m.behind(l...)
	if len(m.image()) != api.Sector {
		t.Fatal("reckoned wrongly", len(m.image()))
	}
	if e := s.Apply(l...); e != api.OK {
		t.Fatal(e)
	}
	same := []Change{set(5, integer(1)), gone(6), set(6, integer(2))}
	if e := s.Apply(same...); e != api.OK {
		t.Error("as many objects as ahead", e)
	}
	m = m.behind(same...)
	lasts(t, d, 20, m)
	// The 64th object has 5 bytes, and the count one more; the 7th has 4.
	for _, x := range []struct {
		other Change
		size  int
	}{{set(64, integer(0)), left - 2 - 6}, {gone(7), left - 2 - 6 + 5}} {
		l := []Change{x.other, set(1, text(x.size+1))}
		if got := len(m.behind(l...).image()); got != api.Sector+1 {
			t.Fatal("reckoned wrongly", got)
		}
		unchanged(t, "one byte more", d, s, m, api.ErrFull, func() api.Errno { return s.Apply(l...) })
		l[1] = set(1, text(x.size))
		if e := s.Apply(l...); e != api.OK {
			t.Error(e)
		}
		m = m.behind(l...)
		lasts(t, d, 20, m)
	}
}

// A record may have as many bytes as an empty log has room for, and not one more.
func TestRecordsThatAreTooLong(t *testing.T) {
	for log := 3; log < 7; log++ {
		d, s := formatted(t, 2+log+20, log)
		room, fits, m := (log-3)*511, -1, empty()
		for size := range room {
			if len(recordBytes(2, set(1, text(size)))) <= room {
				fits = size
			}
		}
		unchanged(t, "one more", d, s, m, api.ErrFull, func() api.Errno { return s.Apply(set(1, text(fits+1))) })
		if log == 3 {
			// In such a log only a record of nothing has room.
			unchanged(t, "no room", d, s, m, api.ErrFull, func() api.Errno { return s.Apply(gone(1)) })
			if s.Replace(3, set(2, text(2000))) != api.OK || s.Checkpoint() != api.OK {
				t.Error("Replace")
			}
			lasts(t, d, log, model{3, map[int]api.Val{2: text(2000)}})
			continue
		}
		for i := range 3 {
			// Only a log that has no room is emptied first.
			if e := s.Apply(set(1, text(fits))); e != api.OK || s.head.turn != 1+i {
				t.Fatal(log, e, s.head.turn)
			}
			unchanged(t, "one more", d, s, m.behind(set(1, text(fits))), api.ErrFull, func() api.Errno { return s.Apply(set(1, text(fits+1))) })
			lasts(t, d, log, m.behind(set(1, text(fits))))
		}
	}
}

// No record of a log has more than 2^24 bytes.
func TestTheGreatestRecord(t *testing.T) {
	d, s := formatted(t, api.MaxDisk, api.MaxDisk-100)
	m := empty()
	l := slices.Repeat([]Change{set(1, text(4096))}, 4090)
	// The last four have what the others leave; from 64 bytes on a count of them has two.
	for i := range 4 {
		l[4086+i] = set(1, text(64))
	}
	left := 1<<24 - len(recordBytes(2, l...))
	for i := range 4 {
		l[4086+i] = set(1, text(64+(left+i)/4))
	}
	if got := len(recordBytes(2, l...)); got != 1<<24 {
		t.Fatal("reckoned wrongly", got)
	}
	more := slices.Clone(l)
	more[len(l)-1] = set(1, text(64+(left+3)/4+1))
	unchanged(t, "one more", d, s, m, api.ErrFull, func() api.Errno { return s.Apply(more...) })
	if e := s.Apply(l...); e != api.OK {
		t.Fatal(e)
	}
	lasts(t, d, api.MaxDisk-100, m.behind(l...))
}

func TestErrorsOfTheDisk(t *testing.T) {
	d, s := formatted(t, 14, 6)
	s.Apply(set(1, integer(1)))
	m := empty().behind(set(1, integer(1)))
	d.Arm(0)
	d.Barrier()
	// What can be seen without the disk is looked for first.
	for _, x := range []struct {
		l    []Change
		want api.Errno
	}{{nil, api.OK}, {[]Change{gone(0)}, api.ErrArg}, {[]Change{set(1, noForm())}, api.ErrForm}, {[]Change{set(1, tooBig())}, api.ErrBig}, {[]Change{set(1, text(4000))}, api.ErrFull}, {[]Change{gone(1)}, api.ErrDown}} {
		unchanged(t, "Apply", d, s, m, x.want, func() api.Errno { return s.Apply(x.l...) })
		if x.l != nil {
			unchanged(t, "Replace", d, s, m, x.want, func() api.Errno { return s.Replace(2, x.l...) })
		}
	}
	unchanged(t, "Replace", d, s, m, api.ErrArg, func() api.Errno { return s.Replace(0) })
	unchanged(t, "Checkpoint", d, s, m, api.ErrDown, s.Checkpoint)
	refused(t, "no power", d, 6, api.ErrDown)
	refused(t, "a wrong place", d, 2, api.ErrArg)
	if Format(d, 6) != api.ErrDown || Format(d, 2) != api.ErrArg {
		t.Error("Format")
	}
	d.Crash()
	lasts(t, d, 6, m)
	// No power, and nothing that is right: the power is told, since nothing can be read.
	d = laid(t, make([]byte, 14*api.Sector))
	d.Arm(0)
	d.Barrier()
	refused(t, "no power, no store", d, 6, api.ErrDown)
}

// Behind an error of the disk nobody knows what of the call lasts: the store
// does nothing any more, so that one that is opened anew loses nothing.
func TestAStoreIsToBeOpenedAnew(t *testing.T) {
	calls := map[string]func(s *Store) api.Errno{
		"Apply":      func(s *Store) api.Errno { return s.Apply(set(2, text(300))) },
		"Checkpoint": (*Store).Checkpoint,
		"Replace":    func(s *Store) api.Errno { return s.Replace(7, set(6, integer(6))) },
	}
	for what, call := range calls {
		broken := 0
		for n := range 20 {
			d, s := formatted(t, 14, 6)
			m := empty().behind(set(1, integer(1)))
			s.Apply(set(1, integer(1)))
			d.Arm(n)
			if call(s) == api.OK {
				continue
			}
			broken++
			d.Crash(1, 1, 1, 1)
			anew := opened(t, d, 6)
			if anew.Apply(set(3, integer(3))) != api.OK {
				t.Fatal(what, n)
			}
			image, steps := d.Image(), d.Steps()
			for _, later := range calls {
				if e := later(s); e != api.ErrDown || d.Steps() != steps || !bytes.Equal(d.Image(), image) {
					t.Errorf("%s, %d changes: it goes on", what, n)
				}
			}
			has(t, s, m)
			if s := opened(t, d, 6); s.Next() != anew.Next() || !slices.Equal(s.Ids(), anew.Ids()) {
				t.Errorf("%s, %d changes: something is lost", what, n)
			}
		}
		if broken < 4 {
			t.Error(what, "was broken off only", broken, "times")
		}
	}
}

func TestNil(t *testing.T) {
	for _, s := range []*Store{nil, new(Store)} {
		if v, e := s.Get(1); e != api.ErrArg || !val.Same(v, api.Val{}) {
			t.Error("Get", v, e)
		}
		if s.Ids() != nil || s.Next() != 0 || s.Size() != 0 || s.Room() != 0 {
			t.Error("no store has something")
		}
		for _, l := range [][]Change{nil, {set(1, integer(1))}, {set(0, noForm())}, {set(1, tooBig())}} {
			if s.Apply(l...) != api.ErrArg || s.Replace(9, l...) != api.ErrArg || s.Replace(0, l...) != api.ErrArg {
				t.Error("no store changes")
			}
		}
		if s.Checkpoint() != api.ErrArg {
			t.Error("no store is laid down")
		}
	}
}

// Values that have no end, and lists that share their parts.
func TestValuesWithoutEnd(t *testing.T) {
	d, s := formatted(t, 14, 6)
	kids := make([]api.Val, 2)
	kids[0] = api.Val{Kind: api.Con, Kids: kids}
	kids[1] = kids[0]
	wide := integer(1)
	for range 150 {
		wide = api.Val{Kind: api.Tuple, Kids: []api.Val{wide, wide}}
	}
	for v, want := range map[*api.Val]api.Errno{&kids[0]: api.ErrForm, &wide: api.ErrBig} {
		unchanged(t, "Apply", d, s, empty(), want, func() api.Errno { return s.Apply(set(1, *v)) })
		unchanged(t, "Replace", d, s, empty(), want, func() api.Errno { return s.Replace(2, set(1, *v)) })
	}
	if e := s.Apply(Change{Id: 1, Val: kids[0], Gone: true}); e != api.OK {
		t.Error(e)
	}
}

func TestNothingIsChangedOrKept(t *testing.T) {
	d, s := formatted(t, 30, 12)
	fresh := func() []Change {
		kids := append(make([]api.Val, 0, 4), integer(1), pref(2))
		return append(make([]Change, 0, 4), set(1, api.Val{Kind: api.Tuple, Kids: kids}), gone(5), set(2, text(3)))
	}
	m := empty().behind(fresh()...)
	for _, call := range []func(l []Change) api.Errno{
		func(l []Change) api.Errno { return s.Apply(l...) },
		func(l []Change) api.Errno { return s.Replace(6, l...) },
		func(l []Change) api.Errno { s.Replace(1); return s.Apply(l...) },
	} {
		l := fresh()
		if e := call(l); e != api.OK {
			t.Fatal(e)
		}
		if fmt.Sprint(l[:4], l[0].Val.Kids[:4]) != fmt.Sprint(fresh()[:4], fresh()[0].Val.Kids[:4]) {
			t.Error("what was handed in is changed")
		}
		l[0].Val.Kids[0] = text(1)
		l[0], l[1], l[2] = gone(9), gone(9), gone(9)
		has(t, s, m)
		lasts(t, d, 12, m)
	}
	v, _ := s.Get(1)
	for i := range v.Kids[:cap(v.Kids)] {
		v.Kids[:cap(v.Kids)][i] = text(9)
	}
	ids := s.Ids()
	clear(ids[:cap(ids)])
	has(t, s, m)
	lasts(t, d, 12, m)
}

// Two stores of one disk's copies go their own ways.
func TestStoresShareNothing(t *testing.T) {
	d, a := formatted(t, 14, 6)
	a.Apply(set(1, integer(1)))
	c := d.Copy()
	b := opened(t, c, 6)
	a.Apply(set(2, integer(2)))
	b.Apply(gone(1))
	has(t, a, empty().behind(set(1, integer(1)), set(2, integer(2))))
	has(t, b, empty().behind(gone(1)))
	lasts(t, d, 6, empty().behind(set(1, integer(1)), set(2, integer(2))))
	lasts(t, c, 6, empty().behind(gone(1)))
}
