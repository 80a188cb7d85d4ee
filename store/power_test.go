package store

import (
	"bytes"
	"slices"
	"testing"

	"scriptor/api"
	"scriptor/disk"
)

// A disk on which the power goes: halves of two sectors, and a log with room
// for two small records.
const (
	powerLog   = 6
	powerDisk  = 2 + powerLog + 2*2 + 1
	powerWaits = 4 // at most so many writes wait
)

// call is a store's: Apply (0), Checkpoint (1), Replace (2).
type call struct {
	kind, next int
	l          []Change
}

func (c call) do(s *Store) api.Errno {
	switch c.kind {
	case 0:
		return s.Apply(c.l...)
	case 1:
		return s.Checkpoint()
	}
	return s.Replace(c.next, c.l...)
}

func (c call) behind(m model) model {
	switch c.kind {
	case 0:
		return m.behind(c.l...)
	case 1:
		return m
	}
	after := empty().behind(c.l...)
	after.next = c.next
	return after
}

func calls() []call {
	apply := func(l ...Change) call { return call{l: l} }
	checkpoint := call{kind: 1}
	return []call{
		apply(set(1, integer(5)), set(2, text(20))), apply(set(3, text(600))), apply(gone(1), set(4, pref(3)), gone(9)),
		checkpoint, apply(set(3, text(700)), set(1, integer(6))), {kind: 2, next: 8, l: []Change{set(2, text(900)), set(7, integer(7)), gone(1)}},
		apply(gone(2)), apply(set(8, pref(8))), apply(set(2, text(100))), checkpoint, checkpoint,
		{kind: 2, next: 3, l: []Change{set(1, pref(2)), set(2, integer(1))}}, apply(set(5, text(800))), apply(set(5, integer(1))), {kind: 2, next: 1}, apply(set(1, integer(1))),
	}
}

// play does calls until one fails. It answers how many were done, and the model behind them.
func play(t *testing.T, s *Store, m model, l []call) (int, model) {
	t.Helper()
	for i, c := range l {
		e := c.do(s)
		if e != api.OK && e != api.ErrDown || (e == api.ErrDown) != s.disk.Off() {
			t.Fatalf("call %d: %d", i, e)
		}
		if e != api.OK {
			return i, m
		}
		m = c.behind(m)
	}
	return len(l), m
}

func picks(mask, n int) []int {
	var l []int
	for i := range n {
		l = append(l, mask>>i&1)
	}
	return l
}

// afresh opens what a crash left. Of two models it finds the one that is there; is it the second?
func afresh(t *testing.T, d *disk.Disk, log int, before, behind model) (*Store, bool) {
	t.Helper()
	s := opened(t, d, log)
	if before.differs(s) == "" {
		return s, false
	}
	if diff := behind.differs(s); diff != "" {
		t.Fatalf("%s: neither what was ahead nor what was to be behind: %v, next %d", diff, s.Ids(), s.Next())
	}
	return s, true
}

// afterOpening lets the power go at each change of an opening, again and again,
// with each pick, ahead of the last one.
func afterOpening(t *testing.T, d *disk.Disk, log int, before, behind model, second bool) int {
	t.Helper()
	broken := 0
	for n := range 4 {
		for mask := range 2 {
			c := d.Copy()
			for range 3 {
				c.Arm(n)
				if s, e := Open(c, log); e == api.ErrDown && s == nil {
					broken++
				} else if e != api.OK {
					t.Fatal("an opening that is broken off", e)
				}
				c.Crash(mask, mask)
			}
			if _, got := afresh(t, c, log, before, behind); got != second {
				t.Fatal("an opening that is broken off changes something")
			}
		}
	}
	return broken
}

// At each change the power goes, each pick of what waits lasts, and then again
// in the opening; then the rest is done.
func TestPowerGoesAtEachChange(t *testing.T) {
	d, s := formatted(t, powerDisk, powerLog)
	steps := d.Steps()
	if done, _ := play(t, s, empty(), calls()); done != len(calls()) {
		t.Fatal("the calls themselves fail", done)
	}
	changes := d.Steps() - steps
	lost, kept, broken := 0, 0, 0
	for n := range changes + 1 {
		for mask := range 1 << powerWaits {
			d, s := formatted(t, powerDisk, powerLog)
			d.Arm(n)
			done, m := play(t, s, empty(), calls())
			if (done == len(calls())) != (n == changes) {
				t.Fatalf("%d changes: %d calls", n, done)
			}
			d.Crash(picks(mask, powerWaits)...)
			behind := m
			if done < len(calls()) {
				behind = calls()[done].behind(m)
			}
			_, happened := afresh(t, d.Copy(), powerLog, m, behind)
			broken += afterOpening(t, d, powerLog, m, behind, happened)
			s, _ = afresh(t, d, powerLog, m, behind)
			if happened {
				m = behind
				done++
				kept++
			} else {
				lost++
			}
			rest, m := play(t, s, m, calls()[done:])
			if done+rest != len(calls()) {
				t.Fatalf("%d changes, picks %b: it doesn't go on", n, mask)
			}
			has(t, s, m)
			lasts(t, d, powerLog, m)
		}
	}
	if lost == 0 || kept == 0 || broken == 0 {
		t.Error("a call that wasn't answered never happened, or always; or no opening was broken off", lost, kept, broken)
	}
}

// With the head that is new all else is there: the image behind a barrier, and the empty log.
func TestFormatBreaksOff(t *testing.T) {
	const log, half = 3, 2
	const count = 2 + log + 2*half
	elder, _ := formatted(t, count, log)
	s := opened(t, elder, log)
	for range 4 {
		s.Replace(3, set(1, text(400)), set(2, text(400)))
	}
	m := model{3, map[int]api.Val{1: text(400), 2: text(400)}}
	lasts(t, elder, log, m)
	head := headBytes(1, 0, []byte{2, 0}, 1)
	for _, old := range []*disk.Disk{laid(t, make([]byte, count*512)), laid(t, bytes.Repeat([]byte{0xA5}, count*512)), elder} {
		for n := range 20 {
			for mask := range 1 << half {
				d := old.Copy()
				d.Arm(n)
				e := Format(d, log)
				d.Crash(picks(mask, half)...)
				image := d.Image()
				isNew := bytes.Equal(image[:512], head)
				// A log of three: two noughts, a barrier, its head, a barrier; the half, a barrier; two heads, a barrier.
				if want := n >= 2+1+1+1+half+1+2+1; e != api.OK && e != api.ErrDown || (e == api.OK) != want {
					t.Fatalf("%d changes: %d", n, e)
				}
				rest := slices.Concat(logHead(1), sectors(2), sectors(half, []byte{2, 0}))
				if (isNew || e == api.OK) && !bytes.Equal(image[2*512:][:len(rest)], rest) {
					t.Fatalf("%d changes, picks %b: a head ahead of what it names", n, mask)
				}
				s, oe := Open(d.Copy(), log)
				switch {
				case e == api.OK && (oe != api.OK || !bytes.Equal(image[512:1024], make([]byte, 512))):
					t.Fatalf("%d changes, picks %b: %d", n, mask, oe)
				case oe == api.OK && empty().differs(s) != "" && m.differs(s) != "", oe != api.OK && oe != api.ErrRot:
					t.Fatalf("%d changes, picks %b: %d", n, mask, oe)
				}
				if Format(d, log) != api.OK {
					t.Fatal("Format behind one that was broken off")
				}
				lasts(t, d, log, empty())
			}
		}
	}
}

// some is a list of changes of the first few objects.
func some(next func(int) int) []Change {
	var l []Change
	for range next(4) {
		c := set(1+next(6), integer(next(1000)))
		switch next(4) {
		case 0:
			c = gone(c.Id)
		case 1:
			c.Val = text(next(500))
		case 2:
			c.Val = api.Val{Kind: api.Con, Num: next(256), Kids: []api.Val{pref(1 + next(9)), text(next(40))}}
		}
		l = append(l, c)
	}
	return l
}

// Again and again, whatever is done: against a plain map of what there must be.
func TestPowerGoesAgainAndAgain(t *testing.T) {
	seed := uint64(1)
	next := func(n int) int {
		seed = seed*6364136223846793005 + 1442695040888963407
		return int(seed>>33) % n
	}
	anyPicks := func() []int { return picks(next(1<<12), 12) }
	for range 40 {
		log := 4 + next(8)
		d, s := formatted(t, 2+log+2*(2+next(3))+next(2), log)
		m := empty()
		for range 60 {
			if next(3) > 0 {
				d.Arm(next(20))
			}
			c := call{l: some(next)}
			switch next(6) {
			case 0:
				c = call{kind: 1}
			case 1:
				c.kind, c.next = 2, 7+next(3)
			}
			behind := m
			switch e := c.do(s); e {
			case api.OK:
				m = c.behind(m)
				behind = m
			case api.ErrDown:
				behind = c.behind(m)
			case api.ErrFull:
			default:
				t.Fatal(e)
			}
			if !d.Off() && next(2) > 0 {
				has(t, s, m)
				continue
			}
			d.Crash(anyPicks()...)
			for range next(3) {
				d.Arm(next(3))
				Open(d, log)
				d.Crash(anyPicks()...)
			}
			var happened bool
			if s, happened = afresh(t, d, log, m, behind); happened {
				m = behind
			}
		}
	}
}
