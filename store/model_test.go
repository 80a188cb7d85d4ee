package store

import (
	"bytes"
	"encoding/binary"
	"hash/crc32"
	"maps"
	"slices"
	"strings"
	"testing"

	"scriptor/api"
	"scriptor/disk"
	"scriptor/val"
	"scriptor/wal"
)

// The functions from here to logRecord say a second time what the document says of the bytes.

func number(n int) []byte { return binary.AppendVarint(nil, int64(n)) }

func numbers(l ...int) []byte {
	var b []byte
	for _, n := range l {
		b = append(b, number(n)...)
	}
	return b
}

func str(b []byte) []byte { return append(number(len(b)), b...) }

func sumOf(b []byte) int { return int(crc32.Checksum(b, crc32.MakeTable(crc32.Castagnoli))) }

func closed(b []byte) []byte {
	return binary.LittleEndian.AppendUint32(bytes.Clone(b), uint32(sumOf(b)))
}

// sectors are bytes, with noughts up to the end of so many.
func sectors(n int, parts ...[]byte) []byte {
	b := slices.Concat(parts...)
	return append(b, make([]byte, n*api.Sector-len(b))...)
}

func headBytes(turn, half int, image []byte, least int) []byte {
	return sectors(1, closed(append([]byte("ST"), numbers(turn, half, len(image), sumOf(image), least)...)))
}

func valueBytes(v api.Val) []byte {
	b, e := val.Encode(v)
	if e != api.OK {
		panic("a test's own value isn't in form")
	}
	return b
}

// model is what a store must have.
type model struct {
	next int
	vals map[int]api.Val
}

func empty() model { return model{1, map[int]api.Val{}} }

func (m model) image() []byte {
	b := numbers(m.next, len(m.vals))
	for _, n := range slices.Sorted(maps.Keys(m.vals)) {
		b = append(append(b, number(n)...), str(valueBytes(m.vals[n]))...)
	}
	return b
}

func recordBytes(next int, l ...Change) []byte {
	b := numbers(next, len(l))
	for _, c := range l {
		b = append(b, number(c.Id)...)
		if c.Gone {
			b = append(b, 0)
		} else {
			b = append(append(b, 2), str(valueBytes(c.Val))...)
		}
	}
	return b
}

func logHead(age int) []byte { return sectors(1, closed(append([]byte("LG"), number(age)...))) }

func logRecord(age, num int, b []byte) []byte {
	l := sectors(1, []byte{0x48}, closed(numbers(age, num, len(b), sumOf(b))))
	for part := range slices.Chunk(b, 511) {
		l = append(l, sectors(1, []byte{0x44}, part)...)
	}
	return l
}

// behind is the model behind changes.
func (m model) behind(l ...Change) model {
	after := model{m.next, maps.Clone(m.vals)}
	for _, c := range l {
		after.next = max(after.next, c.Id+1)
		if delete(after.vals, c.Id); !c.Gone {
			after.vals[c.Id] = c.Val
		}
	}
	return after
}

// differs tells where a store has something else than the model; "": nowhere.
func (m model) differs(s *Store) string {
	ids := s.Ids()
	switch {
	case s.Next() != m.next:
		return "the next number"
	case !slices.Equal(ids, slices.Sorted(maps.Keys(m.vals))):
		return "the numbers"
	case s.Size() != len(m.image()):
		return "the size"
	}
	for _, n := range ids {
		if v, e := s.Get(n); e != api.OK || !val.Same(v, m.vals[n]) {
			return "a value"
		}
	}
	return ""
}

// has: is this what a store has?
func has(t *testing.T, s *Store, m model) {
	t.Helper()
	if d := m.differs(s); d != "" {
		t.Fatalf("%s: %v, next %d, %d bytes", d, s.Ids(), s.Next(), s.Size())
	}
}

// lasts: is this what is opened of a disk?
func lasts(t *testing.T, d *disk.Disk, log int, m model) {
	t.Helper()
	has(t, opened(t, d.Copy(), log), m)
}

// laid is a disk on which just that lasts.
func laid(t *testing.T, image ...[]byte) *disk.Disk {
	t.Helper()
	b := slices.Concat(image...)
	d, e := disk.New(len(b) / api.Sector)
	if e != api.OK {
		t.Fatal(e)
	}
	for n := range d.Count() {
		d.Write(n, b[n*api.Sector:(n+1)*api.Sector])
	}
	d.Barrier()
	return d.Copy()
}

// opened is a store of a disk. Opened twice, the disk is the same.
func opened(t *testing.T, d *disk.Disk, log int) *Store {
	t.Helper()
	s, e := Open(d, log)
	if s == nil || e != api.OK {
		t.Fatalf("Open: %d", e)
	}
	image, steps := d.Image(), d.Steps()
	if _, e := Open(d, log); e != api.OK || d.Steps() != steps || !bytes.Equal(d.Image(), image) {
		t.Fatalf("opened twice: %d", e)
	}
	return s
}

// formatted is a disk with a store, and nothing else.
func formatted(t *testing.T, count, log int) (*disk.Disk, *Store) {
	t.Helper()
	d := laid(t, make([]byte, count*api.Sector))
	if e := Format(d, log); e != api.OK {
		t.Fatal(e)
	}
	return d, opened(t, d, log)
}

// refused: Open answers that, nothing beside it, and changes nothing.
func refused(t *testing.T, what string, d *disk.Disk, log int, want api.Errno) {
	t.Helper()
	image, steps := d.Image(), d.Steps()
	if s, e := Open(d, log); s != nil || e != want {
		t.Errorf("%s: Open answers %d, not %d", what, e, want)
	}
	if d.Steps() != steps || !bytes.Equal(d.Image(), image) {
		t.Errorf("%s: Open changes something", what)
	}
}

// logOf is a log of so many sectors, as it stands on a disk.
func logOf(t *testing.T, count, age int, records ...[]byte) []byte {
	t.Helper()
	l := append(logHead(age), logHead(age-1)...)
	if age%2 == 0 {
		l = append(logHead(age-1), logHead(age)...)
	}
	for i, b := range records {
		l = append(l, logRecord(age, i, b)...)
	}
	l = sectors(count, l)
	d := laid(t, l)
	if w, r, e := wal.Open(d, 0, count); e != api.OK || w.Age() != age || len(r) != len(records) {
		t.Fatal("a test's own log isn't one", e)
	}
	return l
}

func integer(n int) api.Val { return api.Val{Num: n} }
func pref(n int) api.Val    { return api.Val{Kind: api.Pref, Num: n} }
func text(n int) api.Val    { return api.Val{Kind: api.Str, Text: strings.Repeat("t", n)} }

func set(n int, v api.Val) Change { return Change{Id: n, Val: v} }
func gone(n int) Change           { return Change{Id: n, Gone: true} }
