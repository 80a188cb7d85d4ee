package store

import (
	"bytes"
	"math"
	"slices"
	"testing"

	"scriptor/api"
	"scriptor/disk"
)

func TestFormat(t *testing.T) {
	for _, x := range []struct{ count, log int }{{7, 3}, {8, 3}, {9, 3}, {9, 5}, {30, 10}, {31, 10}, {100, 50}} {
		garbage := bytes.Repeat([]byte{0xA5}, x.count*api.Sector)
		d := laid(t, garbage)
		if e := Format(d, x.log); e != api.OK {
			t.Fatal(x, e)
		}
		half := (x.count - 2 - x.log) / 2
		want := slices.Concat(headBytes(1, 0, []byte{2, 0}, 1), sectors(1), logHead(1), sectors(x.log-1), sectors(half, []byte{2, 0}))
		want = append(want, garbage[len(want):]...)
		if !bytes.Equal(d.Image(), want) {
			t.Errorf("%v: another image", x)
		}
		s := opened(t, d, x.log)
		has(t, s, empty())
		if s.Room() != half*512 || s.Size() != 2 {
			t.Errorf("%v: %d bytes of %d", x, s.Size(), s.Room())
		}
	}
}

// Byte by byte: what stands on the disk behind each call.
func TestLayout(t *testing.T) {
	const log, half = 8, 3
	d := laid(t, bytes.Repeat([]byte{0xA5}, (2+log+2*half+1)*api.Sector))
	if Format(d, log) != api.OK {
		t.Fatal("Format")
	}
	s := opened(t, d, log)
	want := d.Image()
	put := func(n int, b []byte) { copy(want[n*api.Sector:], b) }
	check := func(what string, e api.Errno) {
		t.Helper()
		if e != api.OK || !bytes.Equal(d.Image(), want) {
			t.Fatalf("behind %s: %d, another image", what, e)
		}
	}
	m, l := empty(), []Change{set(5, integer(-1)), set(2, text(300)), gone(9), set(5, pref(2))}
	put(4, logRecord(1, 0, recordBytes(10, l...)))
	check("Apply", s.Apply(l...))
	m = m.behind(l...)
	put(6, logRecord(1, 1, recordBytes(10, gone(2))))
	check("Apply", s.Apply(gone(2)))
	m = m.behind(gone(2))
	put(2+log+half, sectors(half, m.image()))
	put(1, headBytes(2, 1, m.image(), 2))
	put(3, logHead(2))
	check("Checkpoint", s.Checkpoint())
	put(4, logRecord(2, 0, recordBytes(10, set(1, text(900)))))
	check("Apply", s.Apply(set(1, text(900))))
	m = m.behind(set(1, text(900)))
	has(t, s, m)
	// Four sectors are needed, three are left.
	put(2+log, sectors(half, m.image()))
	put(0, headBytes(3, 0, m.image(), 3))
	put(2, logHead(3))
	put(4, logRecord(3, 0, recordBytes(10, set(3, text(1100)), gone(1))))
	check("Apply behind a checkpoint", s.Apply(set(3, text(1100)), gone(1)))
	m = model{7, map[int]api.Val{6: integer(6)}}
	put(2+log+half, sectors(half, m.image()))
	put(1, headBytes(4, 1, m.image(), 4))
	put(3, logHead(4))
	check("Replace", s.Replace(7, set(6, integer(6))))
	put(2+log, sectors(half, []byte{2, 0}))
	put(0, headBytes(5, 0, []byte{2, 0}, 5))
	put(2, logHead(5))
	check("Replace", s.Replace(1))
	has(t, opened(t, d, log), empty())
}

func TestTheFirstBytes(t *testing.T) {
	d, s := formatted(t, 20, 6)
	s.Apply(set(7, integer(5)), gone(3))
	s.Checkpoint()
	s.Apply(set(1, integer(-1)))
	image := d.Image()
	for at, want := range map[int]string{
		0: "ST\x02\x00\x04", 512: "ST\x04\x02\x0C", 2 * 512: "LG\x02", 3 * 512: "LG\x04", (2 + 6) * 512: "\x02\x00\x00", (2 + 6 + 6) * 512: "\x10\x02\x0E\x04\x00\x0A\x00",
		5*512 + 1: "\x10\x02\x02\x02\x04\x00\x01\x00",
	} {
		if !bytes.HasPrefix(image[at:], []byte(want)) {
			t.Errorf("at %d: %x, not %x", at, image[at:at+8], want)
		}
	}
}

func TestPlaces(t *testing.T) {
	for _, x := range []struct {
		count, log int
		want       api.Errno
	}{
		{7, 3, api.OK}, {8, 3, api.OK}, {8, 4, api.OK}, {20, 16, api.OK}, {6, 3, api.ErrArg}, {7, 4, api.ErrArg}, {20, 17, api.ErrArg}, {20, 18, api.ErrArg},
		{20, 20, api.ErrArg}, {20, 2, api.ErrArg}, {20, 0, api.ErrArg}, {20, -1, api.ErrArg}, {20, math.MinInt, api.ErrArg}, {20, math.MaxInt, api.ErrArg}, {1, 3, api.ErrArg},
	} {
		d := laid(t, make([]byte, x.count*api.Sector))
		if e := Format(d, x.log); e != x.want {
			t.Errorf("Format %v: %d", x, e)
		}
		if x.want == api.OK {
			lasts(t, d, x.log, empty())
			continue
		}
		if d.Steps() != 0 {
			t.Errorf("Format %v changes something", x)
		}
		refused(t, "a wrong place", d, x.log, x.want)
	}
	for _, d := range []*disk.Disk{nil, new(disk.Disk)} {
		if e := Format(d, 3); e != api.ErrArg {
			t.Error(e)
		}
		refused(t, "no disk", d, 3, api.ErrArg)
	}
}

// withHeads is a disk with these heads, a log of age 1, and two images.
func withHeads(t *testing.T, first, second []byte) (*disk.Disk, model, model) {
	t.Helper()
	a, b := empty().behind(set(1, integer(100))), empty().behind(set(2, integer(200)), set(3, text(600)))
	return laid(t, first, second, logOf(t, 4, 1), sectors(2, a.image()), sectors(2, b.image())), a, b
}

func TestTheGreaterTurnCounts(t *testing.T) {
	_, a, b := withHeads(t, sectors(1), sectors(1))
	of := func(turn, half int) []byte {
		return headBytes(turn, half, []model{a, b}[half].image(), 1)
	}
	for i, x := range []struct {
		first, second []byte
		want          model
	}{
		{of(1, 0), sectors(1), a}, {of(1, 1), sectors(1), b}, {sectors(1), of(2, 1), b}, {sectors(1), of(2, 0), a},
		{of(1, 0), of(2, 1), b}, {of(3, 0), of(2, 1), a}, {of(3, 1), of(4, 0), a}, {of(math.MaxInt, 1), of(2, 0), b}, {of(1, 1), of(math.MaxInt-1, 0), a},
	} {
		d, _, _ := withHeads(t, x.first, x.second)
		if diff := x.want.differs(opened(t, d, 4)); diff != "" {
			t.Error(i, diff)
		}
	}
}

// badHeads are sectors that are no head, of an image in half 0.
func badHeads(image []byte) map[string][]byte {
	n, sum := len(image), sumOf(image)
	mark := []byte("ST")
	of := func(l ...int) []byte { return sectors(1, closed(append(mark[:2:2], numbers(l...)...))) }
	good := append(mark[:2:2], numbers(3, 0, n, sum, 1)...)
	return map[string][]byte{
		"nothing": sectors(1), "all ones": bytes.Repeat([]byte{0xFF}, 512), "a log's head": logHead(3),
		"turn 0": of(0, 0, n, sum, 1), "turn -1": of(-1, 0, n, sum, 1), "half 2": of(3, 2, n, sum, 1), "half -1": of(3, -1, n, sum, 1),
		"a count below 0": of(3, 0, -1, sum, 1), "a sum below 0": of(3, 0, n, -1, 1), "a sum of 33 bits": of(3, 0, n, sum|1<<32, 1),
		"age 0": of(3, 0, n, sum, 0), "age -1": of(3, 0, n, sum, -1), "one number less": of(3, 0, n, sum), "one number more": of(3, 0, n, sum, 1, 0),
		"no numbers": of(), "another mark": sectors(1, closed(append([]byte("SU"), good[2:]...))), "no mark": sectors(1, closed(good[2:])),
		"the mark isn't closed": sectors(1, mark, closed(good[2:])), "it isn't closed": sectors(1, good), "no noughts behind": sectors(1, closed(good), []byte{1}),
		"a nought ahead": sectors(1, []byte{0}, closed(good)), "a long number": sectors(1, closed(slices.Concat(mark, []byte{0x86, 0}, good[3:]))),
		"the last byte": append(sectors(1, closed(good))[:511], 1),
	}
}

func TestNoHead(t *testing.T) {
	_, a, b := withHeads(t, sectors(1), sectors(1))
	for what, head := range badHeads(a.image()) {
		d, _, _ := withHeads(t, head, sectors(1))
		refused(t, what, d, 4, api.ErrRot)
		d, _, _ = withHeads(t, sectors(1), head)
		refused(t, what, d, 4, api.ErrRot)
		// The other one counts then, whatever turn this one tells.
		d, _, _ = withHeads(t, head, headBytes(2, 1, b.image(), 1))
		if diff := b.differs(opened(t, d, 4)); diff != "" {
			t.Errorf("%s: %s", what, diff)
		}
	}
}

// A head of which any bit was changed doesn't count.
func TestEachBitOfAHead(t *testing.T) {
	_, a, b := withHeads(t, sectors(1), sectors(1))
	for bit := range 8 * api.Sector {
		head := headBytes(3, 0, a.image(), 1)
		head[bit/8] ^= 1 << (bit % 8)
		d, _, _ := withHeads(t, head, sectors(1))
		refused(t, "a bit", d, 4, api.ErrRot)
		d, _, _ = withHeads(t, head, headBytes(2, 1, b.image(), 1))
		if s, e := Open(d, 4); e != api.OK || b.differs(s) != "" {
			t.Fatalf("bit %d: %d", bit, e)
		}
	}
}

// An image's half of which any bit was changed is rotten, also where the other
// head has a good one; the other half and what is left over are nothing to it.
func TestEachBitOfAnImage(t *testing.T) {
	m := empty().behind(set(1, integer(7)), set(4, text(20)))
	image := slices.Concat(headBytes(1, 0, []byte{2, 0}, 1), headBytes(2, 1, m.image(), 2), logOf(t, 3, 2), sectors(1, []byte{2, 0}), sectors(1, m.image()), sectors(1))
	good := laid(t, image)
	for bit := range 8 * 3 * api.Sector {
		at := 5*api.Sector + bit/8
		half, n := bytes.Clone(image[at/512*512:][:512]), at/512
		half[at%512] ^= 1 << (bit % 8)
		d := good.Copy()
		d.Write(n, half)
		d.Barrier()
		s, e := Open(d, 3)
		if n == 6 && (s != nil || e != api.ErrRot) || n != 6 && (e != api.OK || m.differs(s) != "") {
			t.Fatalf("sector %d, bit %d: %d", n, bit, e)
		}
	}
}

// badImages are bytes that are no image.
func badImages() map[string][]byte {
	v := str(valueBytes(integer(1)))
	of := func(next, count int, l ...[]byte) []byte { return append(numbers(next, count), slices.Concat(l...)...) }
	at := func(n int) []byte { return append(number(n), v...) }
	return map[string][]byte{
		"nothing": nil, "one number": number(1), "next 0": of(0, 0), "next -1": of(-1, 0), "next beyond 2^41": of(1<<41+1, 0), "next far off": of(math.MaxInt, 0),
		"a count below 0": of(5, -1), "a count far off": of(5, math.MaxInt), "one less": of(5, 2, at(1)), "one more": of(5, 0, at(1)), "one more behind one": of(5, 1, at(1), at(2)),
		"next is there": of(1, 1, at(1)), "next is below": of(4, 2, at(1), at(5)), "next is the last": of(5, 2, at(1), at(5)),
		"number 0": of(5, 1, at(0)), "number -1": of(5, 1, at(-1)), "a number beyond 2^40": of(1<<41, 1, at(1<<40+1)), "one number twice": of(5, 2, at(3), at(3)), "falling": of(5, 2, at(3), at(2)),
		"no value": of(5, 1, number(1)), "a value of nothing": of(5, 1, number(1), number(0)), "no value's bytes": of(5, 1, number(1), str([]byte{14})),
		"a value and more": of(5, 1, number(1), str([]byte{12, 12})), "a value that ends early": of(5, 1, number(1), str([]byte{0})), "object 0 is named": of(5, 1, number(1), str([]byte{10, 0})),
		"a count beyond its bytes": of(5, 1, number(1), number(9)), "a long number": append([]byte{0x82, 0}, 0), "a nought behind": of(5, 1, at(1), []byte{0}),
		"a text too long": of(5, 1, number(1), str(append([]byte{4, 0x82, 0x40}, make([]byte, 4097)...))),
	}
}

func TestNoImage(t *testing.T) {
	const half = 10
	with := func(image, head []byte) *disk.Disk {
		return laid(t, head, headBytes(2, 1, []byte{2, 0}, 1), logOf(t, 3, 1), sectors(half, image), sectors(half, []byte{2, 0}))
	}
	for what, b := range badImages() {
		refused(t, what, with(b, headBytes(3, 0, b, 1)), 3, api.ErrRot)
	}
	good := slices.Concat(numbers(5, 1, 1), str([]byte{12}))
	s := opened(t, with(good, headBytes(3, 0, good, 1)), 3)
	has(t, s, model{5, map[int]api.Val{1: {Kind: api.Unit}}})
	for what, head := range map[string][]byte{
		"another image's": headBytes(3, 0, good[:4], 1), "one nought more": headBytes(3, 0, append(good[:5:5], 0), 1), "another half's": headBytes(3, 1, good, 1),
		"another sum":       sectors(1, closed(append([]byte("ST"), numbers(3, 0, len(good), sumOf(good)^1, 1)...))),
		"beyond the half":   headBytes(3, 0, sectors(half, good, []byte{0})[:half*512+1], 1),
		"far beyond":        sectors(1, closed(append([]byte("ST"), numbers(3, 0, math.MaxInt, sumOf(good), 1)...))),
		"the whole half":    headBytes(3, 0, sectors(half, good), 1),
		"nothing at all":    headBytes(3, 0, nil, 1),
		"what stands there": headBytes(3, 0, sectors(half, good)[:512], 1),
	} {
		if len(head) != api.Sector {
			t.Fatal(what)
		}
		refused(t, what, with(good, head), 3, api.ErrRot)
	}
	for _, behind := range [][]byte{{1}, append(make([]byte, half*512-len(good)-1), 1)} {
		refused(t, "no noughts behind", with(append(bytes.Clone(good), behind...), headBytes(3, 0, good, 1)), 3, api.ErrRot)
	}
}

func TestEdgesOfAnImage(t *testing.T) {
	for _, m := range []model{
		{1, nil}, {1 << 41, nil}, {2, map[int]api.Val{1: integer(1)}}, {1 << 41, map[int]api.Val{1 << 40: integer(1)}}, {1<<40 + 1, map[int]api.Val{1: pref(1 << 40), 1 << 40: text(400)}},
	} {
		d := laid(t, headBytes(7, 1, m.image(), 1), sectors(1), logOf(t, 3, 1), sectors(1), sectors(1, m.image()))
		has(t, opened(t, d, 3), m)
	}
}

// withRecords is a disk whose image has object 5, and with these records.
func withRecords(t *testing.T, l ...[]byte) *disk.Disk {
	t.Helper()
	m := empty().behind(set(5, integer(5)))
	return laid(t, headBytes(1, 0, m.image(), 1), sectors(1), logOf(t, 40, 1, l...), sectors(9, m.image()), sectors(9))
}

func TestRecords(t *testing.T) {
	d := withRecords(t, recordBytes(6, set(1, integer(1))), recordBytes(9, gone(8), set(2, text(4000)), gone(5)), recordBytes(9, gone(7), set(1, integer(2)), set(1, integer(3))))
	has(t, opened(t, d, 40), model{9, map[int]api.Val{1: integer(3), 2: text(4000)}})
	has(t, opened(t, withRecords(t, recordBytes(1<<40+1, set(1<<40, integer(1)))), 40), empty().behind(set(5, integer(5)), set(1<<40, integer(1))))
	// The next number is what the record says, also if it needn't be so great.
	s := opened(t, withRecords(t, recordBytes(20, set(1, integer(1))), recordBytes(20, gone(1))), 40)
	has(t, s, model{20, map[int]api.Val{5: integer(5)}})
	has(t, opened(t, withRecords(t, numbers(30, 0), recordBytes(1<<41, gone(5))), 40), model{1 << 41, nil})
	has(t, opened(t, withRecords(t), 40), empty().behind(set(5, integer(5))))
}

func TestNoRecord(t *testing.T) {
	v := str(valueBytes(integer(1)))
	of := func(next, count int, l ...[]byte) []byte { return append(numbers(next, count), slices.Concat(l...)...) }
	at := func(n int) []byte { return append(numbers(n, 1), v...) }
	good := of(9, 2, at(8), numbers(5, 0))
	has(t, opened(t, withRecords(t, good), 40), model{9, map[int]api.Val{8: integer(1)}})
	for what, b := range map[string][]byte{
		"nothing": nil, "one number": number(9), "next 0": of(0, 1, at(8)), "next -1": of(-1, 1, at(8)), "next beyond 2^41": of(1<<41+1, 1, at(8)),
		"next is named": of(8, 1, at(8)), "next is gone": of(8, 1, numbers(8, 0)), "next ahead of those that were": of(5, 1, at(1)), "next below": of(2, 1, at(1)),
		"a count below 0": of(9, -1), "a count far off": of(9, math.MaxInt), "one less": of(9, 2, at(8)), "one more": of(9, 1, at(8), at(7)), "none, and one": of(9, 0, at(8)),
		"number 0": of(9, 1, at(0)), "number -1": of(9, 1, at(-1)), "a number beyond 2^40": of(1<<41, 1, at(1<<40+1)), "0 is gone": of(9, 1, numbers(0, 0)),
		"neither there nor gone": of(9, 1, numbers(8, 2), v), "-1": of(9, 1, numbers(8, -1)), "no value": of(9, 1, numbers(8, 1)), "gone, with a value": of(9, 1, numbers(8, 0), v),
		"a value of nothing": of(9, 1, numbers(8, 1, 0)), "no value's bytes": of(9, 1, numbers(8, 1), str([]byte{14})), "a value and more": of(9, 1, numbers(8, 1), str([]byte{12, 12})),
		"a nought behind": append(bytes.Clone(good), 0), "it ends early": good[:len(good)-1], "a long number": append([]byte{0x92, 0}, good[1:]...),
		"more than the image holds": recordBytes(9, set(1, text(4000)), set(2, text(4000))),
	} {
		refused(t, what, withRecords(t, b), 40, api.ErrRot)
		refused(t, what+", behind a good one", withRecords(t, good, b), 40, api.ErrRot)
		refused(t, what+", ahead of a good one", withRecords(t, b, good), 40, api.ErrRot)
	}
}

func TestNoLog(t *testing.T) {
	m := empty().behind(set(1, integer(1)))
	for _, head := range [][]byte{sectors(1), headBytes(1, 0, m.image(), 1), logHead(0), bytes.Repeat([]byte{0xFF}, 512)} {
		d := laid(t, headBytes(1, 0, m.image(), 5), sectors(1), head, head, sectors(3), sectors(2, m.image()), sectors(2))
		refused(t, "no log", d, 5, api.ErrRot)
	}
	// Rotten things are found ahead of the first change: here the log would have to be truncated.
	d := laid(t, headBytes(1, 0, m.image(), 5), sectors(1), logOf(t, 5, 1), sectors(2), sectors(2))
	refused(t, "no image", d, 5, api.ErrRot)
}

// What elder ages than the least one say is in the image, or was never answered.
func TestLeastAge(t *testing.T) {
	for least := 1; least < 9; least++ {
		for age := 1; age < 9; age++ {
			m := empty().behind(set(5, integer(5)))
			d := laid(t, headBytes(4, 1, m.image(), least), sectors(1), logOf(t, 6, age, recordBytes(10, gone(5), set(9, integer(9)))), sectors(1), sectors(1, m.image()))
			before, steps := d.Image(), 2*max(least-age, 0)
			s := opened(t, d, 6)
			if d.Steps() != steps {
				t.Errorf("least age %d, age %d: %d changes", least, age, d.Steps())
			}
			if age >= least {
				has(t, s, model{10, map[int]api.Val{9: integer(9)}})
				continue
			}
			has(t, s, m)
			for a := age + 1; a <= least; a++ {
				copy(before[(3-a%2)*512:], logHead(a))
			}
			if !bytes.Equal(d.Image(), before) {
				t.Errorf("least age %d, age %d: another image", least, age)
			}
			if s.Apply(set(1, integer(1))) != api.OK {
				t.Error("it doesn't go on")
			}
			lasts(t, d, 6, m.behind(set(1, integer(1))))
		}
	}
}

// A record that is rotten, but of an age that counts no longer, is nothing.
func TestRottenRecordsOfAnElderAge(t *testing.T) {
	d := laid(t, headBytes(1, 0, []byte{2, 0}, 2), sectors(1), logOf(t, 6, 1, []byte("rotten")), sectors(1, []byte{2, 0}), sectors(1))
	has(t, opened(t, d, 6), empty())
}

// Behind the greatest turn, or the greatest age, none is greater: what would need one is refused.
func TestTheLastTurnAndTheLastAge(t *testing.T) {
	m := empty().behind(set(1, integer(1)))
	for what, d := range map[string]*disk.Disk{
		"turn": laid(t, headBytes(math.MaxInt, 0, m.image(), 1), sectors(1), logOf(t, 6, 1), sectors(1, m.image()), sectors(1)),
		"age":  laid(t, headBytes(1, 0, m.image(), 1), sectors(1), logOf(t, 6, math.MaxInt), sectors(1, m.image()), sectors(1)),
	} {
		s, image := opened(t, d, 6), d.Image()
		if s.Checkpoint() != api.ErrBig || s.Replace(2) != api.ErrBig || d.Steps() != 0 || !bytes.Equal(d.Image(), image) {
			t.Errorf("%s: a greater one", what)
		}
		if s.Apply(set(2, integer(2))) != api.OK || s.Apply(set(2, integer(3))) != api.OK || s.Apply(gone(2)) != api.ErrBig {
			t.Errorf("%s: the log's room isn't used", what)
		}
		lasts(t, d, 6, m.behind(set(2, integer(3))))
	}
	d := laid(t, headBytes(math.MaxInt-1, 1, m.image(), 1), sectors(1), logOf(t, 6, math.MaxInt-1), sectors(1), sectors(1, m.image()))
	s := opened(t, d, 6)
	if s.Checkpoint() != api.OK || s.Checkpoint() != api.ErrBig {
		t.Error("the last turn")
	}
	lasts(t, d, 6, m)
}
