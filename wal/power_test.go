package wal

import (
	"bytes"
	"testing"

	"scriptor/api"
	"scriptor/disk"
)

const sectors = 24

// state is what a log must have: its age, and its records.
type state struct {
	age     int
	records [][]byte
}

func (s state) is(l *Log, records [][]byte) bool { return l.Age() == s.age && same(records, s.records) }

// step is an Append, or a Truncate.
type step struct {
	truncate bool
	b        []byte
}

func (x step) do(l *Log) api.Errno {
	if x.truncate {
		return l.Truncate()
	}
	return l.Append(x.b)
}

// behind is the state behind a step.
func (s state) behind(x step) state {
	if x.truncate {
		return state{s.age + 1, nil}
	}
	return state{s.age, append(s.records[:len(s.records):len(s.records)], x.b)}
}

func script() []step {
	return []step{
		{b: []byte("a")}, {b: some(1400)}, {b: nil}, {truncate: true},
		{b: some(600)}, {truncate: true}, {truncate: true}, {b: some(511)}, {b: nil}, {b: some(1022)},
	}
}

// play does steps until one fails. It answers how many were done, and the state behind them.
func play(l *Log, s state, steps []step) (int, state) {
	for i, x := range steps {
		if x.do(l) != api.OK {
			return i, s
		}
		s = s.behind(x)
	}
	return len(steps), s
}

// afresh opens what a crash left, again and again with the power that goes, and
// finds which of two states it is; was it the second one?
func afresh(t *testing.T, d *disk.Disk, before, behind state) (*Log, bool) {
	t.Helper()
	for range 2 {
		d.Arm(0)
		if _, _, e := Open(d, 0, sectors); e != api.OK || d.Off() {
			t.Fatal("opening needs a change", e)
		}
		d.Crash(1, 1, 1)
	}
	l, records := opened(t, d, 0, sectors)
	if before.is(l, records) {
		return l, false
	}
	if !behind.is(l, records) {
		t.Fatalf("age %d, %d records: neither of age %d, %d nor of age %d, %d",
			l.Age(), len(records), before.age, len(before.records), behind.age, len(behind.records))
	}
	return l, true
}

// At each change the power goes, each pick of what waits lasts; then the rest is done.
func TestPowerGoesAtEachChange(t *testing.T) {
	const waits = 3
	d, l := formatted(t, sectors)
	before := d.Steps()
	play(l, state{age: 1}, script())
	changes := d.Steps() - before
	lost, kept := 0, 0
	for n := range changes + 1 {
		for mask := range 1 << waits {
			d, l := formatted(t, sectors)
			d.Arm(n)
			done, s := play(l, state{age: 1}, script())
			if (done == len(script())) != (n == changes) {
				t.Fatalf("%d changes: %d steps", n, done)
			}
			d.Crash(picks(mask, waits)...)
			behind := s
			if done < len(script()) {
				behind = s.behind(script()[done])
			}
			l, happened := afresh(t, d, s, behind)
			if happened {
				s = behind
				done++
				kept++
			} else {
				lost++
			}
			rest, s := play(l, s, script()[done:])
			if done+rest != len(script()) {
				t.Fatalf("%d changes, picks %b: it doesn't go on", n, mask)
			}
			hasRecords(t, d, 0, sectors, s.age, s.records...)
		}
	}
	if lost == 0 || kept == 0 {
		t.Error("a call that wasn't answered never happened, or always", lost, kept)
	}
}

// A record's bytes last ahead of its first sector: with that one it is there.
func TestTheFirstSectorComesLast(t *testing.T) {
	const waits = 4
	b := some(1400)
	want := recordOf(1, 0, b)
	for n := range 8 {
		for mask := range 1 << waits {
			d, l := formatted(t, 8)
			d.Arm(n)
			e := l.Append(b)
			d.Crash(picks(mask, waits)...)
			got := d.Image()[2*api.Sector:][:len(want)]
			isFirst := bytes.Equal(got[:api.Sector], want[:api.Sector])
			if isFirst && !bytes.Equal(got, want) || e == api.OK && !isFirst {
				t.Errorf("%d changes, picks %b: %d", n, mask, e)
			}
			if !isFirst && !bytes.Equal(got[:api.Sector], noughts(1)) {
				t.Errorf("%d changes, picks %b: another first sector", n, mask)
			}
		}
	}
}

// disguised are bytes that look like what stands elsewhere in a log: like a
// head's sector, a record's first one, as if the mark ahead weren't there or
// were part of them, of the ages and numbers that are still to come.
func disguised(seed func(int) int, age int) []byte {
	var l []byte
	for range seed(4) {
		of, number := age+seed(3), seed(4)
		var s []byte
		switch seed(3) {
		case 0:
			s = recordOf(of, number, nil)[:api.Sector]
		case 1:
			s = recordOf(of, number, some(seed(1000)))[:api.Sector]
		default:
			s = headOf(of)
		}
		// Behind the mark 511 bytes follow: with or without the sector's own first one.
		cut := seed(2)
		l = append(l, s[cut:cut+api.Sector-1]...)
	}
	return append(l, some(seed(600))...)
}

// Again and again the power goes, and records have bytes like those of other ages.
func TestElderAges(t *testing.T) {
	seed := uint64(1)
	next := func(n int) int {
		seed = seed*6364136223846793005 + 1442695040888963407
		return int(seed>>33) % n
	}
	for range 150 {
		d, l := formatted(t, sectors)
		s := state{age: 1}
		for range 40 {
			if next(3) > 0 {
				d.Arm(next(12))
			}
			x := step{truncate: next(4) == 0, b: disguised(next, s.age)}
			if x.truncate {
				x.b = nil
			}
			switch e := x.do(l); e {
			case api.OK:
				s = s.behind(x)
			case api.ErrFull, api.ErrDown:
			default:
				t.Fatal(e)
			}
			behind := s.behind(x)
			if !d.Off() {
				behind = s
			}
			d.Crash(next(2), next(2), next(2), next(2), next(2), next(2))
			var happened bool
			if l, happened = afresh(t, d, s, behind); happened {
				s = behind
			}
		}
	}
}

// Of an elder age longer and shorter records than those of this one stand behind them.
func TestRecordsOfAnElderAge(t *testing.T) {
	for elder := range 5 {
		for now := range 5 {
			d, l := formatted(t, sectors)
			for range 5 {
				l.Append(some(300 * elder))
			}
			l.Truncate()
			hasRecords(t, d, 0, sectors, 2)
			var want [][]byte
			for range 3 {
				want = append(want, some(300*now))
				l.Append(some(300 * now))
				hasRecords(t, d, 0, sectors, 2, want...)
			}
		}
	}
}
