package wal

import (
	"bytes"
	"math"
	"testing"

	"scriptor/api"
	"scriptor/disk"
)

func TestAppend(t *testing.T) {
	sizes := []int{0, 1, 2, 63, 64, 510, 511, 512, 513, 1021, 1022, 1023, 5110, 5111, 0, 8191, 8192}
	d, l := formatted(t, 100)
	var want [][]byte
	for _, size := range sizes {
		b := some(size)
		if e := l.Append(b); e != api.OK {
			t.Fatal(size, e)
		}
		want = append(want, b)
		hasRecords(t, d, 0, 100, 1, want...)
		// A log that is opened goes on where the other one is.
		if again, _ := opened(t, d, 0, 100); again.Room() != l.Room() || again.Age() != l.Age() {
			t.Errorf("behind %d bytes: %d bytes are left, not %d", size, again.Room(), l.Room())
		}
	}
	d.Crash()
	hasRecords(t, d, 0, 100, 1, want...)
	l, _ = opened(t, d, 0, 100)
	if e := l.Append([]byte("more")); e != api.OK {
		t.Fatal(e)
	}
	hasRecords(t, d, 0, 100, 1, append(want, []byte("more"))...)
}

func TestRoom(t *testing.T) {
	for count := 3; count < 9; count++ {
		d, l := formatted(t, count)
		for left := count - 2; left > 0; left-- {
			if got := l.Room(); got != (left-1)*511 {
				t.Errorf("%d sectors: %d, not %d", left, got, (left-1)*511)
			}
			steps := d.Steps()
			if e := l.Append(some(l.Room() + 1)); e != api.ErrFull || d.Steps() != steps {
				t.Errorf("%d sectors: %d", left, e)
			}
			whole := d.Copy()
			w, _ := opened(t, whole, 0, count)
			if e := w.Append(some(w.Room())); e != api.OK || w.Room() != -1 {
				t.Errorf("%d sectors: %d, then %d", left, e, w.Room())
			}
			if e := l.Append(nil); e != api.OK {
				t.Error(left, e)
			}
		}
		image, steps := d.Image(), d.Steps()
		if l.Room() != -1 || l.Append(nil) != api.ErrFull || l.Append([]byte("a")) != api.ErrFull {
			t.Error("no sector is left", l.Room())
		}
		if d.Steps() != steps || !bytes.Equal(d.Image(), image) {
			t.Error("what was refused has changed something")
		}
		if l.Truncate() != api.OK || l.Room() != (count-3)*511 || l.Append(some(l.Room())) != api.OK {
			t.Error("Truncate gives no room", l.Room())
		}
	}
}

func TestTheGreatestRecord(t *testing.T) {
	const most = 1 << 24
	d, l := formatted(t, api.MaxDisk)
	if got := l.Room(); got != most {
		t.Error("more room than a record may have", got)
	}
	b := some(most + 1)
	steps := d.Steps()
	if e := l.Append(b); e != api.ErrBig || d.Steps() != steps {
		t.Error(e)
	}
	if e := l.Append(b[:most]); e != api.OK {
		t.Error(e)
	}
	if want := (api.MaxDisk - 2 - 32834 - 1) * 511; l.Room() != want {
		t.Errorf("%d, not %d", l.Room(), want)
	}
	hasRecords(t, d, 0, api.MaxDisk, 1, b[:most])
	// Of what is too great and has no room, too, the first is answered.
	_, l = formatted(t, 5)
	if e := l.Append(b); e != api.ErrBig {
		t.Error(e)
	}
	if e := l.Append(b[:most]); e != api.ErrFull {
		t.Error(e)
	}
}

func TestWrongPlaces(t *testing.T) {
	for _, x := range []struct {
		sectors, first, count int
		want                  api.Errno
	}{
		{20, 0, 20, api.OK}, {20, 17, 3, api.OK}, {20, 0, 3, api.OK}, {20, 5, 15, api.OK},
		{20, -1, 5, api.ErrArg}, {20, -5, 20, api.ErrArg}, {20, math.MinInt, 5, api.ErrArg}, {20, math.MinInt, math.MaxInt, api.ErrArg},
		{20, 0, 2, api.ErrArg}, {20, 0, 1, api.ErrArg}, {20, 0, 0, api.ErrArg}, {20, 3, -1, api.ErrArg}, {20, 0, math.MinInt, api.ErrArg},
		{20, 30, -15, api.ErrArg}, {20, 0, 21, api.ErrArg}, {20, 1, 20, api.ErrArg}, {20, 18, 3, api.ErrArg}, {20, 20, 3, api.ErrArg},
		{20, 1, math.MaxInt, api.ErrArg}, {20, math.MaxInt, 3, api.ErrArg}, {20, math.MaxInt, math.MaxInt, api.ErrArg},
		{2, 0, 3, api.ErrArg}, {2, 0, 2, api.ErrArg}, {3, 0, 3, api.OK},
	} {
		d := laid(t, noughts(x.sectors))
		if e := Format(d, x.first, x.count); e != x.want {
			t.Errorf("Format of %v: %d", x, e)
		}
		if x.want == api.OK {
			hasRecords(t, d, x.first, x.count, 1)
			continue
		}
		if d.Steps() != 0 {
			t.Errorf("Format of %v changes something", x)
		}
		refused(t, d, x.first, x.count, api.ErrArg)
	}
	if Format(nil, 0, 3) != api.ErrArg || Format(new(disk.Disk), 0, 3) != api.ErrArg {
		t.Error("Format of no disk")
	}
	refused(t, nil, 0, 3, api.ErrArg)
	refused(t, new(disk.Disk), 0, 3, api.ErrArg)
}

func TestErrorsOfTheDisk(t *testing.T) {
	d, l := formatted(t, 10)
	l.Append([]byte("a"))
	d.Arm(0)
	d.Barrier()
	// What can be seen without the disk is looked for first.
	for _, x := range [][2]int{{-1, 5}, {0, 2}, {0, 11}} {
		refused(t, d, x[0], x[1], api.ErrArg)
		if e := Format(d, x[0], x[1]); e != api.ErrArg {
			t.Errorf("Format of %v: %d", x, e)
		}
	}
	if e := l.Append(make([]byte, 1<<24+1)); e != api.ErrBig {
		t.Error(e)
	}
	if e := l.Append(make([]byte, l.Room()+1)); e != api.ErrFull {
		t.Error(e)
	}
	refused(t, d, 0, 10, api.ErrDown)
	if Format(d, 0, 10) != api.ErrDown || l.Append(nil) != api.ErrDown || l.Truncate() != api.ErrDown {
		t.Error("another error than the disk's")
	}
	if l.Age() != 1 || l.Room() != 5*511 {
		t.Error("what was refused has changed the log", l.Age(), l.Room())
	}
	d.Crash()
	hasRecords(t, d, 0, 10, 1, []byte("a"))
	d = laid(t, noughts(10))
	d.Arm(0)
	d.Barrier()
	refused(t, d, 0, 10, api.ErrDown)
}

// Behind an error of the disk nobody knows what of the call lasts: nothing is
// answered OK that another log, opened anew, wouldn't have.
func TestALogIsToBeOpenedAnew(t *testing.T) {
	for n := range 8 {
		d, l := formatted(t, 10)
		d.Arm(n)
		call := l.Truncate
		if n > 1 {
			d.Arm(n - 2)
			call = func() api.Errno { return l.Append(some(600)) }
		}
		if call() == api.OK {
			continue
		}
		d.Crash(1, 1, 1)
		_, before := opened(t, d, 0, 10)
		if l.Append([]byte("b")) != api.ErrDown || l.Truncate() != api.ErrDown || l.Append(nil) != api.ErrDown {
			t.Error(n, "it goes on")
		}
		anew, after := opened(t, d, 0, 10)
		if !same(before, after) || anew.Append([]byte("c")) != api.OK {
			t.Error(n, "what was refused has changed something")
		}
		hasRecords(t, d, 0, 10, anew.Age(), append(after, []byte("c"))...)
	}
}

func TestTheLastAge(t *testing.T) {
	d := laid(t, headOf(math.MaxInt-1), noughts(1), recordOf(math.MaxInt-1, 0, nil), noughts(2))
	l, _ := opened(t, d, 0, 5)
	if l.Truncate() != api.OK || l.Age() != math.MaxInt || l.Append([]byte("a")) != api.OK {
		t.Error("the last age", l.Age())
	}
	image := d.Image()
	if l.Truncate() != api.ErrBig || l.Age() != math.MaxInt || !bytes.Equal(d.Image(), image) {
		t.Error("an age behind the last one", l.Age())
	}
	hasRecords(t, d, 0, 5, math.MaxInt, []byte("a"))
}

func TestLogsSideBySide(t *testing.T) {
	d := laid(t, noughts(20))
	Format(d, 0, 10)
	Format(d, 10, 10)
	a, _ := opened(t, d, 0, 10)
	b, _ := opened(t, d, 10, 10)
	a.Append([]byte("a"))
	b.Append([]byte("b"))
	b.Truncate()
	b.Append([]byte("c"))
	a.Append([]byte("d"))
	hasRecords(t, d, 0, 10, 1, []byte("a"), []byte("d"))
	hasRecords(t, d, 10, 10, 2, []byte("c"))
}

func TestNil(t *testing.T) {
	var l *Log
	if l.Append(nil) != api.ErrArg || l.Append([]byte("a")) != api.ErrArg || l.Truncate() != api.ErrArg {
		t.Error("a nil log changes")
	}
	if l.Append(make([]byte, 1<<24+1)) != api.ErrArg {
		t.Error("a nil log looks at the bytes")
	}
	if l.Age() != 0 || l.Room() != -1 {
		t.Error("a nil log has something", l.Age(), l.Room())
	}
	// One that wasn't opened has no sector.
	l = new(Log)
	if l.Append(nil) != api.ErrFull || l.Truncate() != api.ErrArg || l.Age() != 0 || l.Room() != -1 {
		t.Error("a log that wasn't opened")
	}
}

func TestNothingIsChangedOrKept(t *testing.T) {
	d, l := formatted(t, 20)
	room := some(1400)
	before := bytes.Clone(room)
	for i, b := range [][]byte{room[:1000], room[:1], room[:0]} {
		if l.Append(b) != api.OK || !bytes.Equal(room, before) {
			t.Error(i, "what was handed in is changed")
		}
	}
	for i := range room {
		room[i] ^= 0xFF
	}
	want := [][]byte{before[:1000], before[:1], nil}
	hasRecords(t, d, 0, 20, 1, want...)
	_, a := opened(t, d, 0, 20)
	_, b := opened(t, d, 0, 20)
	for i := range a {
		more := a[i][:cap(a[i])]
		for k := range more {
			more[k] ^= 0xFF
		}
		a[i] = nil
	}
	if !same(b, want) {
		t.Error("two answers share memory")
	}
	hasRecords(t, d, 0, 20, 1, want...)
	one := append(b[0], "xyz"...)
	if one[0] != before[0] || !bytes.Equal(b[1], before[:1]) || len(b[2]) != 0 {
		t.Error("two records share memory")
	}
}
