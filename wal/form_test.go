package wal

import (
	"bytes"
	"encoding/binary"
	"hash/crc32"
	"math"
	"slices"
	"testing"

	"scriptor/api"
	"scriptor/disk"
)

// number, closed, headOf, recordOf say a second time what the document says of the bytes.
func number(n int) []byte { return binary.AppendVarint(nil, int64(n)) }

func closed(b []byte) []byte {
	return binary.LittleEndian.AppendUint32(bytes.Clone(b), sumOf(b))
}

func sumOf(b []byte) uint32 { return crc32.Checksum(b, crc32.MakeTable(crc32.Castagnoli)) }

// padded is bytes with noughts up to a sector's end.
func padded(parts ...[]byte) []byte {
	b := slices.Concat(parts...)
	return append(b, make([]byte, api.Sector-len(b))...)
}

func headOf(age int) []byte { return padded(closed(append([]byte{0x4C, 0x47}, number(age)...))) }

func startOf(age, num, count int, sum uint32) []byte {
	return padded([]byte{0x48}, closed(slices.Concat(number(age), number(num), number(count), number(int(sum)))))
}

// recordOf are all sectors of a record.
func recordOf(age, num int, b []byte) []byte {
	l := startOf(age, num, len(b), sumOf(b))
	for len(b) > 0 {
		n := min(len(b), 511)
		l = append(l, padded([]byte{0x44}, b[:n])...)
		b = b[n:]
	}
	return l
}

func noughts(sectors int) []byte { return make([]byte, sectors*api.Sector) }

// some are n bytes that look like none in particular.
func some(n int) []byte {
	b := make([]byte, n)
	seed := uint32(n) + 5
	for i := range b {
		seed = seed*1664525 + 1013904223
		b[i] = byte(seed >> 24)
	}
	return b
}

// laid is a disk on which just that lasts.
func laid(t *testing.T, image ...[]byte) *disk.Disk {
	t.Helper()
	b := slices.Concat(image...)
	d, e := disk.New(len(b) / api.Sector)
	if e != api.OK {
		t.Fatal(e)
	}
	for n := range d.Count() {
		d.Write(n, b[n*api.Sector:(n+1)*api.Sector])
	}
	d.Barrier()
	return d.Copy()
}

// formatted is a disk that has a log, and nothing else.
func formatted(t *testing.T, sectors int) (*disk.Disk, *Log) {
	t.Helper()
	d := laid(t, noughts(sectors))
	if e := Format(d, 0, sectors); e != api.OK {
		t.Fatal(e)
	}
	l, _ := opened(t, d, 0, sectors)
	return d, l
}

// opened is a log that can be opened, and its records. Twice it must be the same, and nothing may be changed.
func opened(t *testing.T, d *disk.Disk, first, count int) (*Log, [][]byte) {
	t.Helper()
	image, steps := d.Image(), d.Steps()
	_, again, _ := Open(d, first, count)
	l, records, e := Open(d, first, count)
	if l == nil || e != api.OK {
		t.Fatalf("Open: %d", e)
	}
	if !same(records, again) || d.Steps() != steps || !bytes.Equal(d.Image(), image) {
		t.Fatal("opening changes something")
	}
	return l, records
}

func same(a, b [][]byte) bool { return slices.EqualFunc(a, b, bytes.Equal) }

// hasRecords: are these a log's records, and is that its age?
func hasRecords(t *testing.T, d *disk.Disk, first, count, age int, want ...[]byte) {
	t.Helper()
	l, records := opened(t, d, first, count)
	if l.Age() != age || !same(records, want) {
		t.Errorf("age %d, %d records, not age %d, %d records", l.Age(), len(records), age, len(want))
	}
}

// refused: Open answers that, and nothing beside it.
func refused(t *testing.T, d *disk.Disk, first, count int, want api.Errno) {
	t.Helper()
	if l, records, e := Open(d, first, count); l != nil || len(records) != 0 || e != want {
		t.Errorf("Open of %d from %d on: %d, not %d", count, first, e, want)
	}
}

func TestFormat(t *testing.T) {
	for _, x := range []struct{ sectors, first, count int }{{3, 0, 3}, {9, 0, 9}, {9, 2, 5}, {9, 6, 3}, {9, 1, 8}} {
		before := some(x.sectors * api.Sector)
		d := laid(t, before)
		if e := Format(d, x.first, x.count); e != api.OK || d.Steps() != x.count+2 {
			t.Errorf("%v: %d, %d changes", x, e, d.Steps())
		}
		from, to := x.first*api.Sector, (x.first+x.count)*api.Sector
		want := slices.Concat(before[:from], headOf(1), noughts(x.count-1), before[to:])
		if !bytes.Equal(d.Image(), want) {
			t.Errorf("%v: another image", x)
		}
		hasRecords(t, d, x.first, x.count, 1)
	}
}

func TestFormatOfALog(t *testing.T) {
	d := laid(t, headOf(3), headOf(4), recordOf(4, 0, some(600)), recordOf(4, 1, nil), noughts(2))
	hasRecords(t, d, 0, 8, 4, some(600), nil)
	if e := Format(d, 0, 8); e != api.OK || !bytes.Equal(d.Image(), append(headOf(1), noughts(7)...)) {
		t.Error(e)
	}
	hasRecords(t, d, 0, 8, 1)
}

// The first head stands there behind a barrier, and behind it there is one, too.
func TestFormatBreaksOff(t *testing.T) {
	const count = 5
	old := slices.Concat(some(api.Sector), headOf(4), recordOf(4, 0, some(500)), recordOf(4, 1, nil))
	empty := append(headOf(1), noughts(count-1)...)
	for n := range count + 3 {
		for mask := range 1 << count {
			d := laid(t, old)
			d.Arm(n)
			e := Format(d, 0, count)
			d.Crash(picks(mask, count)...)
			image := d.Image()
			if e != api.OK && e != api.ErrDown || (e == api.OK) != (n == count+2) {
				t.Fatalf("%d changes: %d", n, e)
			}
			isHead := bytes.Equal(image[:api.Sector], empty[:api.Sector])
			if (isHead || e == api.OK) && !bytes.Equal(image, empty) {
				t.Errorf("%d changes, picks %b: a head ahead of the noughts", n, mask)
			}
			if n == count && !isHead && !bytes.Equal(image[api.Sector:], noughts(count-1)) {
				t.Errorf("%d changes, picks %b: no barrier behind the noughts", n, mask)
			}
		}
	}
}

// picks are the bits of mask, the lowest first.
func picks(mask, n int) []int {
	var l []int
	for i := range n {
		l = append(l, mask>>i&1)
	}
	return l
}

func TestExample(t *testing.T) {
	d, l := formatted(t, 10)
	if l.Append([]byte("a")) != api.OK || l.Append(nil) != api.OK {
		t.Fatal("Append")
	}
	hasRecords(t, d, 0, 10, 1, []byte("a"), nil)
	if l.Truncate() != api.OK {
		t.Fatal("Truncate")
	}
	hasRecords(t, d, 0, 10, 2)
}

// Byte by byte: what stands on the disk behind each call.
func TestLayout(t *testing.T) {
	const count = 20
	d := laid(t, noughts(2), noughts(count), some(3*api.Sector))
	if Format(d, 2, count) != api.OK {
		t.Fatal("Format")
	}
	l, _ := opened(t, d, 2, count)
	want := slices.Concat(noughts(2), headOf(1), noughts(count-1), some(3*api.Sector))
	at := 4 * api.Sector
	check := func(what string) {
		t.Helper()
		if !bytes.Equal(d.Image(), want) {
			t.Fatalf("behind %s: another image", what)
		}
	}
	check("Format")
	for i, size := range []int{1, 0, 511, 512, 700, 1022, 1023} {
		if e := l.Append(some(size)); e != api.OK {
			t.Fatal(size, e)
		}
		at += copy(want[at:], recordOf(1, i, some(size)))
		check("an Append")
	}
	for age := 2; age < 5; age++ {
		if e := l.Truncate(); e != api.OK || l.Age() != age {
			t.Fatal(age, e)
		}
		copy(want[(2+1-age%2)*api.Sector:], headOf(age))
		check("a Truncate")
		at := 4 * api.Sector
		for i, size := range []int{2, 513 * (age - 2)} {
			if e := l.Append(some(size)); e != api.OK {
				t.Fatal(size, e)
			}
			at += copy(want[at:], recordOf(age, i, some(size)))
			check("an Append")
		}
	}
}

func TestTheFirstBytes(t *testing.T) {
	d, l := formatted(t, 6)
	l.Append([]byte("ab"))
	image := d.Image()
	sum := binary.LittleEndian.AppendUint32(nil, sumOf([]byte("LG\x02")))
	if !bytes.HasPrefix(image, append([]byte("\x4C\x47\x02"), sum...)) {
		t.Errorf("a head begins with %x", image[:8])
	}
	if start := image[2*api.Sector:]; !bytes.HasPrefix(start, []byte("\x48\x02\x00\x04")) {
		t.Errorf("a record begins with %x", start[:8])
	}
	if part := image[3*api.Sector:]; !bytes.HasPrefix(part, []byte("\x44ab\x00")) {
		t.Errorf("a record's bytes begin with %x", part[:8])
	}
}

func TestChanges(t *testing.T) {
	for size, want := range map[int]int{0: 3, 1: 4, 511: 4, 512: 5, 1022: 5, 1023: 6} {
		d, l := formatted(t, 10)
		before := d.Steps()
		l.Append(some(size))
		if got := d.Steps() - before; got != want {
			t.Errorf("Append of %d bytes: %d changes, not %d", size, got, want)
		}
		before = d.Steps()
		l.Truncate()
		if got := d.Steps() - before; got != 2 {
			t.Errorf("Truncate: %d changes", got)
		}
	}
}

func TestTheGreaterAgeCounts(t *testing.T) {
	none := some(api.Sector)
	for _, x := range []struct {
		first, second []byte
		age           int
	}{
		{headOf(1), noughts(1), 1}, {noughts(1), headOf(2), 2}, {headOf(3), headOf(2), 3}, {headOf(3), headOf(4), 4},
		{none, headOf(6), 6}, {headOf(7), none, 7}, {headOf(1 << 40), headOf(1), 1 << 40},
		// Wherever it stands.
		{headOf(4), headOf(3), 4}, {headOf(2), none, 2}, {none, headOf(1), 1}, {headOf(1), headOf(9), 9},
		{headOf(math.MaxInt), headOf(math.MaxInt - 1), math.MaxInt},
	} {
		d := laid(t, x.first, x.second, recordOf(x.age, 0, []byte("r")), noughts(2))
		hasRecords(t, d, 0, 6, x.age, []byte("r"))
	}
}

// The head that counts stays; the other one has the next age.
func TestTruncateWritesTheOtherHead(t *testing.T) {
	for _, x := range []struct {
		ages  [2]int
		other int
	}{{[2]int{1, 0}, 1}, {[2]int{3, 2}, 1}, {[2]int{3, 4}, 0}, {[2]int{4, 3}, 1}, {[2]int{1, 9}, 0}, {[2]int{0, 1}, 0}} {
		age := max(x.ages[0], x.ages[1])
		d := laid(t, headOf(x.ages[0]), headOf(x.ages[1]), recordOf(age, 0, nil), noughts(2))
		l, _ := opened(t, d, 0, 5)
		want := d.Image()
		copy(want[x.other*api.Sector:], headOf(age+1))
		if e := l.Truncate(); e != api.OK || l.Age() != age+1 || !bytes.Equal(d.Image(), want) {
			t.Errorf("%v: %d, age %d", x.ages, e, l.Age())
		}
		hasRecords(t, d, 0, 5, age+1)
	}
}

func TestNoHead(t *testing.T) {
	mark := []byte{0x4C, 0x47}
	for i, head := range [][]byte{
		noughts(1), some(api.Sector), headOf(0), headOf(-1), headOf(math.MinInt),
		padded(closed([]byte("\x4C\x47\x82\x00"))), padded(closed([]byte("\x4C\x46\x02"))), padded(closed([]byte("\x47\x4C\x02"))),
		padded(closed([]byte{0x02})), padded(closed(mark)), padded(closed(nil)), padded(closed([]byte("\x4C\x47\x02\x00"))),
		padded(closed([]byte("\x4C\x47\x02")), []byte{1}), padded(mark, closed([]byte{0x02})), padded(mark, number(1)),
		padded([]byte{0}, closed([]byte("\x4C\x47\x02"))), recordOf(1, 0, nil), bytes.Repeat([]byte{0xFF}, api.Sector),
	} {
		d := laid(t, head, noughts(1), recordOf(0, 0, nil), recordOf(1, 0, nil))
		refused(t, d, 0, 4, api.ErrRot)
		d = laid(t, noughts(1), head, noughts(2))
		refused(t, d, 0, 4, api.ErrRot)
		d = laid(t, head, headOf(2), noughts(2))
		if l, _, e := Open(d, 0, 4); e != api.OK || l.Age() != 2 {
			t.Errorf("head %d: %d", i, e)
		}
	}
}

// A head of which any bit was changed doesn't count.
func TestEachBitOfAHead(t *testing.T) {
	for bit := range 8 * api.Sector {
		head := headOf(3)
		head[bit/8] ^= 1 << (bit % 8)
		refused(t, laid(t, head, noughts(3)), 0, 4, api.ErrRot)
		d := laid(t, head, headOf(2), recordOf(3, 0, nil), noughts(1))
		if l, r, e := Open(d, 0, 4); e != api.OK || l.Age() != 2 || len(r) != 0 {
			t.Fatalf("bit %d: %d", bit, e)
		}
	}
}

// Of a record of which any bit was changed, and of those behind it, nothing is there.
func TestEachBitOfARecord(t *testing.T) {
	first, changed := recordOf(5, 0, []byte("first")), recordOf(5, 1, some(600))
	last := recordOf(5, 2, []byte("last"))
	hasRecords(t, laid(t, headOf(5), noughts(1), first, changed, last), 0, 9, 5, []byte("first"), some(600), []byte("last"))
	for bit := range 8 * len(changed) {
		b := bytes.Clone(changed)
		b[bit/8] ^= 1 << (bit % 8)
		_, r, e := Open(laid(t, headOf(5), noughts(1), first, b, last), 0, 9)
		if e != api.OK || !same(r, [][]byte{[]byte("first")}) {
			t.Fatalf("bit %d: %d, %d records", bit, e, len(r))
		}
	}
}

// crafted are sectors that are no record of age 3 with number 1, and a word of why.
func crafted() map[string][]byte {
	good, sum := some(600), sumOf(some(600))
	behind := recordOf(3, 1, good)[api.Sector:]
	begin := func(b []byte) []byte { return append(b, behind...) }
	parts := slices.Concat(number(3), number(1), number(600), number(int(sum)))
	return map[string][]byte{
		"nothing": noughts(3), "an elder age": recordOf(2, 1, good), "an age to come": recordOf(4, 1, good), "age 0": recordOf(0, 1, good),
		"number 0": recordOf(3, 0, good), "number 2": recordOf(3, 2, good), "number -1": recordOf(3, -1, good),
		"another sum": begin(startOf(3, 1, 600, sum+1)), "a count less": begin(startOf(3, 1, 599, sum)),
		"a count more": begin(startOf(3, 1, 601, sum)), "a count below 0": begin(startOf(3, 1, -1, sum)),
		"no bytes": begin(startOf(3, 1, 0, sum)), "a count beyond the log": begin(startOf(3, 1, 4*511+1, sum)),
		"a count beyond all": begin(startOf(3, 1, math.MaxInt, sum)), "the least count": begin(startOf(3, 1, math.MinInt, sum)),
		"another mark":        begin(padded([]byte{0x44}, closed(parts))),
		"the mark is closed":  begin(padded(closed(append([]byte{0x48}, parts...)))),
		"more is closed":      begin(padded([]byte{0x48}, closed(append(bytes.Clone(parts), 0)))),
		"no noughts behind":   begin(padded([]byte{0x48}, closed(parts), []byte{1})),
		"it isn't closed":     begin(padded([]byte{0x48}, parts)),
		"a long number":       begin(padded([]byte{0x48}, closed(append([]byte{0x86, 0}, parts[1:]...)))),
		"bytes of a start":    append(startOf(3, 1, 511, sumOf(good[:511])), padded([]byte{0x48}, good[:511])...),
		"bytes that end late": append(startOf(3, 1, 2, sumOf(good[:2])), padded([]byte{0x44}, good[:3])...),
	}
}

func TestWhatIsNoRecord(t *testing.T) {
	for why, b := range crafted() {
		rest := noughts(5 - len(b)/api.Sector)
		d := laid(t, headOf(3), noughts(1), recordOf(3, 0, []byte("a")), b, rest, recordOf(3, 1, some(600)))
		_, r, e := Open(d, 0, 9)
		if e != api.OK || !same(r, [][]byte{[]byte("a")}) {
			t.Errorf("%s: %d, %d records", why, e, len(r))
		}
	}
}

// What stands behind the log's last sector isn't its own.
func TestARecordEndsInTheLog(t *testing.T) {
	for size := range 4 {
		b := some(511*size + 7)
		d := laid(t, headOf(1), noughts(1), recordOf(1, 0, b), recordOf(1, 1, nil))
		end := 2 + size + 2
		hasRecords(t, d, 0, end+1, 1, b, nil)
		hasRecords(t, d, 0, end, 1, b)
		hasRecords(t, d, 0, end-1, 1)
	}
}

// A record that Append refuses as too great is one, if it is there.
func TestGreatRecordsAreRead(t *testing.T) {
	b := some(1<<24 + 1)
	hasRecords(t, laid(t, headOf(1), noughts(1), recordOf(1, 0, b), noughts(1)), 0, 32836, 1, b)
}
