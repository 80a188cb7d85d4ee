package disk

import (
	"bytes"
	"math"
	"testing"

	"scriptor/api"
)

// full is a sector of one byte.
func full(x byte) []byte { return bytes.Repeat([]byte{x}, api.Sector) }

func made(t *testing.T, sectors int) *Disk {
	t.Helper()
	d, e := New(sectors)
	if d == nil || e != api.OK {
		t.Fatalf("New(%d): %d", sectors, e)
	}
	return d
}

// firsts are the first bytes of all sectors, as Read answers them.
func firsts(t *testing.T, d *Disk) string {
	t.Helper()
	var l []byte
	for n := range d.Count() {
		b, e := d.Read(n)
		if e != api.OK || !bytes.Equal(b, full(b[0])) {
			t.Fatalf("Read(%d) = %x, %d", n, b, e)
		}
		l = append(l, b[0])
	}
	return string(l)
}

// lasting are the first bytes of all sectors, as Image answers them.
func lasting(d *Disk) string {
	var l []byte
	image := d.Image()
	for n := range d.Count() {
		l = append(l, image[n*api.Sector])
	}
	return string(l)
}

func TestNew(t *testing.T) {
	for _, n := range []int{1, 2, 100, api.MaxDisk - 1, api.MaxDisk} {
		d := made(t, n)
		if d.Count() != n || d.Steps() != 0 || d.Off() {
			t.Error(n, d.Count(), d.Steps(), d.Off())
		}
		noughts := make([]byte, n*api.Sector)
		if !bytes.Equal(d.Image(), noughts) {
			t.Error(n, "other bytes than noughts")
		}
		if b, e := d.Read(n - 1); e != api.OK || !bytes.Equal(b, full(0)) {
			t.Error(n, e)
		}
		d.Crash(1, 1)
		if !bytes.Equal(d.Image(), noughts) {
			t.Error(n, "the noughts don't last")
		}
	}
	for _, n := range []int{0, -1, api.MaxDisk + 1, math.MinInt, math.MaxInt} {
		if d, e := New(n); d != nil || e != api.ErrArg {
			t.Errorf("New(%d): %d", n, e)
		}
	}
}

func TestWrite(t *testing.T) {
	d := made(t, 3)
	rising := make([]byte, api.Sector)
	for i := range rising {
		rising[i] = byte(i ^ i>>8)
	}
	for i, b := range [][]byte{rising, full(255), full(0), rising} {
		for n := range 3 {
			if e := d.Write(n, b); e != api.OK {
				t.Fatal(i, n, e)
			}
			if got, e := d.Read(n); e != api.OK || !bytes.Equal(got, b) {
				t.Error(i, n, e)
			}
		}
	}
	if !bytes.Equal(d.Image(), make([]byte, 3*api.Sector)) {
		t.Error("it lasts ahead of a barrier")
	}
	if d.Barrier() != api.OK || !bytes.Equal(d.Image(), bytes.Repeat(rising, 3)) {
		t.Error("it doesn't last behind a barrier")
	}
}

func TestWriteOfOneSectorLeavesTheOthers(t *testing.T) {
	d := made(t, 5)
	d.Write(2, full('b'))
	if got := firsts(t, d); got != "\x00\x00b\x00\x00" {
		t.Errorf("%q", got)
	}
	d.Barrier()
	if got := lasting(d); got != "\x00\x00b\x00\x00" {
		t.Errorf("%q", got)
	}
}

func TestWrongCalls(t *testing.T) {
	d := made(t, 3)
	d.Write(1, full('a'))
	for _, n := range []int{-1, 3, 4, math.MinInt, math.MaxInt} {
		if e := d.Write(n, full('x')); e != api.ErrArg {
			t.Errorf("Write(%d): %d", n, e)
		}
		if b, e := d.Read(n); len(b) != 0 || e != api.ErrArg {
			t.Errorf("Read(%d): %x, %d", n, b, e)
		}
	}
	for _, size := range []int{0, 1, api.Sector - 1, api.Sector + 1, 2 * api.Sector} {
		if e := d.Write(0, make([]byte, size)); e != api.ErrArg {
			t.Errorf("Write of %d bytes: %d", size, e)
		}
	}
	if d.Write(0, nil) != api.ErrArg || d.Write(7, nil) != api.ErrArg {
		t.Error("Write of nothing")
	}
	if got := firsts(t, d); got != "\x00a\x00" || d.Steps() != 1 {
		t.Errorf("what was refused has changed %q, %d", got, d.Steps())
	}
	d.Crash(1, 1, 1, 1)
	if got := lasting(d); got != "\x00a\x00" {
		t.Errorf("what was refused waits: %q", got)
	}
}

// Of sectors that are written again and again each row of picks leaves just what it tells.
func TestEveryPick(t *testing.T) {
	writes := []struct {
		n int
		x byte
	}{{0, 'a'}, {1, 'b'}, {0, 'c'}, {2, 'd'}, {0, 'e'}, {1, 'f'}}
	for mask := range 1 << len(writes) {
		d := made(t, 3)
		d.Write(0, full('x'))
		d.Barrier()
		want := []byte("x\x00\x00")
		var picks []int
		for i, w := range writes {
			d.Write(w.n, full(w.x))
			picks = append(picks, mask>>i&1)
			if mask>>i&1 == 1 {
				want[w.n] = w.x
			}
		}
		if lasting(d) != "x\x00\x00" || firsts(t, d) != "efd" {
			t.Fatalf("ahead of the crash %q, %q", lasting(d), firsts(t, d))
		}
		d.Crash(picks...)
		if firsts(t, d) != string(want) || lasting(d) != string(want) {
			t.Errorf("picks %v: %q, %q, not %q", picks, firsts(t, d), lasting(d), want)
		}
		d.Crash(1, 1, 1, 1, 1, 1)
		d.Barrier()
		if lasting(d) != string(want) {
			t.Errorf("picks %v: something waits behind the crash: %q", picks, lasting(d))
		}
	}
}

func TestPicks(t *testing.T) {
	for _, x := range []struct {
		picks []int
		want  string
	}{
		{nil, "\x00\x00\x00"}, {[]int{}, "\x00\x00\x00"}, {[]int{1}, "a\x00\x00"}, {[]int{0, 1}, "\x00b\x00"},
		{[]int{0, 0, 1}, "\x00\x00c"}, {[]int{1, 1, 1}, "abc"}, {[]int{0, 0, 0, 1, 1}, "\x00\x00\x00"},
		{[]int{1, 1, 1, 1, 1}, "abc"}, {[]int{2, 3, 4}, "\x00b\x00"}, {[]int{-1, -2, -3}, "a\x00c"},
		{[]int{math.MaxInt, math.MinInt, math.MinInt + 1}, "a\x00c"},
	} {
		d := made(t, 3)
		for n := range 3 {
			d.Write(n, full("abc"[n]))
		}
		before := append([]int(nil), x.picks...)
		d.Crash(x.picks...)
		if got := lasting(d); got != x.want {
			t.Errorf("picks %v: %q, not %q", x.picks, got, x.want)
		}
		for i := range before {
			if before[i] != x.picks[i] {
				t.Error("the picks are changed")
			}
		}
	}
}

func TestBehindABarrier(t *testing.T) {
	for mask := range 8 {
		d := made(t, 2)
		d.Write(0, full('a'))
		d.Write(1, full('b'))
		d.Write(1, full('c'))
		d.Barrier()
		d.Crash(mask&1, mask>>1&1, mask>>2&1)
		if got := lasting(d); got != "ac" {
			t.Errorf("picks %b: %q", mask, got)
		}
	}
}

// change is the i-th of changes that are OK as long as there is power.
func change(d *Disk, i int) api.Errno {
	if i%3 == 2 {
		return d.Barrier()
	}
	return d.Write(i%2, full(byte(i+1)))
}

func TestArm(t *testing.T) {
	for n := range 10 {
		d := made(t, 2)
		d.Arm(n)
		for i := range n {
			if e := change(d, i); e != api.OK || d.Off() {
				t.Fatalf("Arm(%d): change %d: %d", n, i, e)
			}
		}
		before := lasting(d)
		if _, e := d.Read(0); e != api.OK || d.Off() || d.Steps() != n {
			t.Errorf("Arm(%d): %d, %d steps", n, e, d.Steps())
		}
		for i := range 4 {
			if e := change(d, n+i); e != api.ErrDown || !d.Off() {
				t.Errorf("Arm(%d): change %d: %d", n, n+i, e)
			}
		}
		if lasting(d) != before || d.Steps() != n {
			t.Errorf("Arm(%d): %q, %d steps", n, lasting(d), d.Steps())
		}
	}
	for _, n := range []int{-1, -2, math.MinInt} {
		d := made(t, 1)
		d.Arm(n)
		if d.Off() || d.Barrier() != api.ErrDown || !d.Off() {
			t.Errorf("Arm(%d)", n)
		}
	}
	d := made(t, 1)
	d.Arm(math.MaxInt)
	if d.Write(0, full(1)) != api.OK || d.Barrier() != api.OK {
		t.Error("Arm(math.MaxInt)")
	}
}

func TestWhatIsRefusedIsNotCounted(t *testing.T) {
	d := made(t, 2)
	d.Arm(1)
	for range 2 {
		for range 3 {
			if d.Write(2, full(1)) != api.ErrArg || d.Write(-1, full(1)) != api.ErrArg || d.Write(0, nil) != api.ErrArg {
				t.Fatal("Write")
			}
			if _, e := d.Read(2); e != api.ErrArg {
				t.Fatal("Read", e)
			}
			if _, e := d.Read(1); e != api.OK || d.Off() {
				t.Fatal("Read", e)
			}
		}
		// The second time there is no change left, but still power.
		if d.Steps() == 0 && d.Write(0, full('a')) != api.OK {
			t.Fatal("a change that was left")
		}
	}
	if d.Barrier() != api.ErrDown || d.Steps() != 1 {
		t.Error("a change that wasn't left", d.Steps())
	}
}

func TestWithoutPower(t *testing.T) {
	d := made(t, 2)
	d.Arm(0)
	d.Write(0, full('a'))
	d.Arm(5)
	for _, n := range []int{0, 1, 2, -1} {
		if e := d.Write(n, full('b')); e != api.ErrDown {
			t.Errorf("Write(%d): %d", n, e)
		}
		if b, e := d.Read(n); len(b) != 0 || e != api.ErrDown {
			t.Errorf("Read(%d): %x, %d", n, b, e)
		}
	}
	if d.Write(0, nil) != api.ErrDown || d.Write(9, nil) != api.ErrDown || d.Barrier() != api.ErrDown {
		t.Error("another error than ErrDown")
	}
	if !d.Off() || d.Count() != 2 || d.Steps() != 0 || lasting(d) != "\x00\x00" {
		t.Error(d.Off(), d.Count(), d.Steps(), lasting(d))
	}
}

func TestTheChangeThatTurnsThePowerOff(t *testing.T) {
	d := made(t, 2)
	d.Arm(1)
	d.Write(0, full('a'))
	d.Write(1, full('b'))
	d.Crash(1, 1)
	if got := lasting(d); got != "a\x00" {
		t.Errorf("a Write: %q", got)
	}
	for pick := range 2 {
		d := made(t, 2)
		d.Arm(2)
		d.Write(0, full('a'))
		d.Write(1, full('b'))
		if d.Barrier() != api.ErrDown || lasting(d) != "\x00\x00" {
			t.Errorf("a Barrier: %q", lasting(d))
		}
		d.Crash(pick, 1-pick)
		if got, want := lasting(d), []string{"\x00b", "a\x00"}[pick]; got != want {
			t.Errorf("a Barrier: %q, not %q", got, want)
		}
	}
}

func TestCrashGivesPower(t *testing.T) {
	d := made(t, 2)
	d.Arm(0)
	d.Barrier()
	d.Arm(0)
	d.Crash()
	for i := range 5 {
		if e := change(d, 3*i); e != api.OK || d.Off() {
			t.Errorf("change %d: %d", i, e)
		}
	}
	d.Arm(1)
	d.Crash()
	for range 5 {
		if e := d.Barrier(); e != api.OK {
			t.Error("Arm isn't forgotten", e)
		}
	}
	if d.Steps() != 10 {
		t.Error("a crash changes how many changes were done", d.Steps())
	}
}

func TestArmAnew(t *testing.T) {
	d := made(t, 1)
	d.Arm(1)
	d.Barrier()
	d.Arm(2)
	if d.Barrier() != api.OK || d.Barrier() != api.OK || d.Barrier() != api.ErrDown {
		t.Error("the first Arm holds")
	}
	d.Crash()
	d.Arm(9)
	d.Arm(0)
	if d.Barrier() != api.ErrDown {
		t.Error("the first Arm holds")
	}
}

func TestSteps(t *testing.T) {
	d := made(t, 2)
	for i, do := range []func(){
		func() { d.Write(0, full(1)) }, func() { d.Barrier() }, func() { d.Barrier() },
		func() {
			d.Write(0, full(1))
			d.Read(0)
			d.Image()
			d.Copy()
			d.Write(5, full(1))
			d.Write(0, nil)
			d.Read(5)
		},
	} {
		do()
		if d.Steps() != i+1 {
			t.Errorf("%d steps, not %d", d.Steps(), i+1)
		}
	}
}

func TestCopy(t *testing.T) {
	d := made(t, 2)
	d.Write(0, full('a'))
	d.Barrier()
	d.Write(0, full('b'))
	d.Arm(1)
	d.Write(1, full('c'))
	d.Barrier()
	c := d.Copy()
	if c.Count() != 2 || c.Steps() != 0 || c.Off() || firsts(t, c) != "a\x00" || lasting(c) != "a\x00" {
		t.Fatalf("%d, %d, %v, %q", c.Count(), c.Steps(), c.Off(), lasting(c))
	}
	if c.Barrier() != api.OK || c.Barrier() != api.OK || lasting(c) != "a\x00" {
		t.Error("on a copy something waits, or it is armed")
	}
	c.Write(1, full('z'))
	c.Barrier()
	if !d.Off() || lasting(d) != "a\x00" {
		t.Error("a copy's change changes what was copied")
	}
	d.Crash(1, 1)
	if lasting(d) != "bc" || lasting(c) != "az" || c.Steps() != 4 {
		t.Errorf("%q, %q", lasting(d), lasting(c))
	}
}

func TestSame(t *testing.T) {
	a, b := made(t, 2), made(t, 2)
	if !Same(a, b) || !Same(a, a) || Same(a, made(t, 3)) || Same(made(t, 1), a) {
		t.Error("disks of noughts")
	}
	last := full(0)
	last[api.Sector-1] = 1
	a.Write(1, last)
	if !Same(a, b) {
		t.Error("what waits counts")
	}
	a.Barrier()
	if Same(a, b) || Same(b, a) || !Same(a, a.Copy()) {
		t.Error("what lasts doesn't count")
	}
	b.Write(1, bytes.Clone(last))
	b.Barrier()
	b.Write(0, last)
	b.Arm(0)
	b.Barrier()
	if !Same(a, b) || !Same(b, a) {
		t.Error("what doesn't last counts")
	}
	if Same(a, nil) || Same(nil, a) || !Same(nil, nil) {
		t.Error("nil disks")
	}
}

func TestNil(t *testing.T) {
	var d *Disk
	d.Arm(1)
	d.Crash()
	d.Crash(1, 2)
	b, e := d.Read(0)
	if len(b) != 0 || e != api.ErrArg || d.Write(0, full(0)) != api.ErrArg || d.Barrier() != api.ErrArg {
		t.Error("a nil disk is written or read")
	}
	if d.Off() || d.Count() != 0 || d.Steps() != 0 || len(d.Image()) != 0 || d.Copy() != nil {
		t.Error("a nil disk has something")
	}
}

func TestNothingIsChangedOrKept(t *testing.T) {
	d := made(t, 2)
	room := bytes.Repeat([]byte("ab"), api.Sector)
	before := string(room)
	d.Write(0, room[:api.Sector])
	d.Barrier()
	d.Crash()
	if string(room) != before {
		t.Error("what was handed in is changed")
	}
	d.Write(1, room[:api.Sector])
	room[0], room[1] = 'x', 'y'
	d.Barrier()
	want := before[:api.Sector]
	if string(d.Image()) != want+want {
		t.Error("what was handed in is kept")
	}
	b, _ := d.Read(0)
	image := d.Image()
	for _, l := range [][]byte{b[:cap(b)], image[:cap(image)]} {
		for i := range l {
			l[i] ^= 0xFF
		}
	}
	c, _ := d.Read(0)
	if string(c) != want || string(d.Image()) != want+want || string(d.Copy().Image()) != want+want {
		t.Error("an answer shares memory with the disk")
	}
}

// event is a Write, or what ends the waiting of those ahead: a barrier, or a crash.
type event struct {
	n     int
	x     byte
	ends  bool
	crash bool
	picks []int
}

// told is what a sector has behind all these, found from the last one back.
func told(l []event, n int, onlyLasting bool) byte {
	// Of what waits nothing lasts, as if there were a crash without a pick.
	end := event{crash: onlyLasting}
	for i := len(l) - 1; i >= 0; i-- {
		if l[i].ends {
			end = l[i]
			continue
		}
		if l[i].n == n && (!end.crash || pickOf(l[:i], end.picks) == 1) {
			return l[i].x
		}
	}
	return 0
}

// pickOf is the pick for the Write behind these: 0, if there is none.
func pickOf(l []event, picks []int) int {
	k := 0
	for i := len(l) - 1; i >= 0 && !l[i].ends; i-- {
		k++
	}
	if k >= len(picks) {
		return 0
	}
	return picks[k]
}

// Against what is told of all that was done, again and again.
func TestLongRuns(t *testing.T) {
	seed := uint64(1)
	some := func(n int) int {
		seed = seed*6364136223846793005 + 1442695040888963407
		return int(seed>>33) % n
	}
	for range 60 {
		d := made(t, 4)
		var l []event
		for range 80 {
			e := event{n: some(4), x: byte(some(255) + 1)}
			switch some(10) {
			case 0, 1:
				e.ends = true
				d.Barrier()
			case 2:
				e.ends, e.crash = true, true
				for range some(6) {
					e.picks = append(e.picks, some(2))
				}
				d.Crash(e.picks...)
			default:
				d.Write(e.n, full(e.x))
			}
			l = append(l, e)
			for n := range 4 {
				if firsts(t, d)[n] != told(l, n, false) || lasting(d)[n] != told(l, n, true) {
					t.Fatalf("%v: %q, %q", l, firsts(t, d), lasting(d))
				}
			}
		}
	}
}
