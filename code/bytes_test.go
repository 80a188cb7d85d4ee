package code

import (
	"bytes"
	"encoding/binary"
	"fmt"
	"hash/crc32"
	"math"
	"math/rand"
	"slices"
	"strings"
	"testing"

	"scriptor/api"
)

// plain says a second time what bytes code has, ahead of their sum, whether it is in order or not.
func plain(c Code) []byte {
	b := []byte{0x53, 0x43}
	number := func(n int) { b = binary.AppendVarint(b, int64(n)) }
	number(len(c.Ins))
	for _, in := range c.Ins {
		number(in.Op)
		number(in.A)
		number(in.B)
	}
	number(len(c.Strs))
	for _, s := range c.Strs {
		number(len(s))
		b = append(b, s...)
	}
	number(len(c.Funs))
	for _, f := range c.Funs {
		number(f)
	}
	number(c.Globals)
	return b
}

// summed is bytes with their sum behind them.
func summed(b []byte) []byte {
	return binary.LittleEndian.AppendUint32(bytes.Clone(b), crc32.Checksum(b, crc32.MakeTable(crc32.Castagnoli)))
}

func bytesOf(c Code) []byte { return summed(plain(c)) }

// refused: Decode answers the error, and nothing beside it.
func refused(t *testing.T, what string, b []byte, want api.Errno) {
	t.Helper()
	if c, e := Decode(b); e != want || !same(c, Code{}) {
		t.Errorf("%s: %.60x: %d, not %d", what, b, e, want)
	}
}

func TestBytes(t *testing.T) {
	c := Code{Ins: []Ins{{Int, 1, 0}, {Halt, 0, 0}}, Funs: []int{0}}
	want := summed([]byte{0x53, 0x43, 4, 0, 2, 0, 56, 0, 0, 0, 2, 0, 0})
	if b, e := Encode(c); e != api.OK || !bytes.Equal(b, want) {
		t.Errorf("%x, %d", b, e)
	}
	c = Code{Ins: []Ins{{Int, -1, 0}, {IsStr, 1, 2}, {Halt, 0, 0}, {Raise, 0, 0}}, Strs: []string{"", "ab"}, Funs: []int{0, 3}, Globals: 64}
	want = summed([]byte{0x53, 0x43, 8, 0, 1, 0, 42, 2, 4, 56, 0, 0, 46, 0, 0, 4, 0, 4, 'a', 'b', 4, 0, 6, 128, 1})
	if b, e := Encode(c); e != api.OK || !bytes.Equal(b, want) {
		t.Errorf("%x, %d", b, e)
	}
	if back, e := Decode(want); e != api.OK || !same(back, c) {
		t.Error(back, e)
	}
}

func TestCodeComesBack(t *testing.T) {
	for seed := range 300 {
		c := newWriter(seed).program()
		b, e := Encode(c)
		if e != api.OK || !bytes.Equal(b, bytesOf(c)) {
			t.Fatalf("%s: %x, %d", Text(c), b, e)
		}
		back, e := Decode(b)
		if e != api.OK || !same(back, c) || Text(back) != Text(c) {
			t.Fatalf("%s: %s, %d", Text(c), Text(back), e)
		}
	}
	// Steps that nobody comes to come back, too, whatever they name.
	for _, n := range []int{0, 1, -1, math.MaxInt, math.MinInt, 1 << 62, -1<<62 - 1} {
		c := Code{Ins: []Ins{{Halt, 0, 0}, {Int, n, 0}, {IsStr, n, -n}, {Try, n, 0}, {Con, n, n}, {29, 0, 0}, {n | 64, 0, 0}}, Funs: []int{0}}
		verdict(t, c, fmt.Sprint(n), true)
	}
}

// TestBytesThatAreNone: each place of some code's bytes is changed, its sum with it, or not.
func TestBytesThatAreNone(t *testing.T) {
	c := asm("Close 1 1; Halt")
	c = Code{Ins: append([]Ins{{Int, 70, 0}, {Str, 0, 0}, {Pop, 0, 0}, {Close, 1, 1}, {Halt, 0, 0}}, asm("Free 0; Ret").Ins...), Strs: []string{"ab", c.Strs[1]}, Funs: []int{0, 5}, Globals: 2}
	b := plain(c)
	if e := Verify(c); e != api.OK {
		t.Fatal(e)
	}
	fine := 0
	for i := range b {
		refused(t, "bytes end", summed(b[:i]), api.ErrForm)
		refused(t, "bytes end, the sum isn't right", summed(b)[:i], api.ErrRot)
		for x := range 256 {
			d := bytes.Clone(b)
			d[i] = byte(x)
			closed := append(d, summed(b)[len(b):]...)
			if d[i] != b[i] {
				refused(t, "a byte is changed", closed, api.ErrRot)
			}
			fine += onlyItsOwn(t, d)
			onlyItsOwn(t, slices.Insert(bytes.Clone(b), i, byte(x)))
		}
		onlyItsOwn(t, slices.Delete(bytes.Clone(b), i, i+1))
		// A number in more bytes than it needs.
		onlyItsOwn(t, slices.Concat(b[:i], []byte{b[i] | 128, 0}, b[i+1:]))
	}
	if fine < len(b) {
		t.Error("no byte can be another one")
	}
	for i := range 4 {
		d := summed(b)
		d[len(b)+i] ^= 1
		refused(t, "the sum is changed", d, api.ErrRot)
	}
	for _, d := range [][]byte{nil, {}, {0}, {0x53, 0x43}, []byte("abc")} {
		refused(t, "no sum", d, api.ErrRot)
		refused(t, "too few bytes", summed(d), api.ErrForm)
	}
	for _, mark := range []string{"\x43\x53", "\x53\x44", "\x54\x43", "SC ", "\x00\x00"} {
		refused(t, "another beginning", summed(append([]byte(mark), b[2:]...)), api.ErrForm)
	}
	refused(t, "a byte behind", summed(append(bytes.Clone(b), 0)), api.ErrForm)
	refused(t, "all of it twice", summed(append(bytes.Clone(b), b...)), api.ErrForm)
}

// onlyItsOwn: bytes with their sum are some code's, or none's; 1: they are one's.
func onlyItsOwn(t *testing.T, b []byte) int {
	t.Helper()
	c, e := Decode(summed(b))
	if e != api.OK {
		refused(t, "bytes with their sum", summed(b), api.ErrForm)
		return 0
	}
	if !bytes.Equal(plain(c), b) || !inOrder(c) {
		t.Errorf("%x is decoded as %x", b, plain(c))
	}
	return 1
}

// TestCountsInBytes: those that are beyond all limits, or that no list has.
func TestCountsInBytes(t *testing.T) {
	number := func(n int) string { return string(binary.AppendVarint(nil, int64(n))) }
	for _, n := range []int{-1, 2, 1 << 20, math.MaxInt, math.MinInt} {
		for _, s := range []string{
			number(n) + "\x38\x00\x00" + "\x00" + "\x02\x00" + "\x00",
			"\x02\x38\x00\x00" + number(n) + "\x02\x00" + "\x00",
			"\x02\x38\x00\x00" + "\x02" + number(n) + "a" + "\x02\x00" + "\x00",
			"\x02\x38\x00\x00" + "\x00" + number(n) + "\x00" + "\x00",
		} {
			refused(t, "a count", summed([]byte("\x53\x43"+s)), api.ErrForm)
		}
	}
	refused(t, "10 bytes of a number, and more", summed([]byte("\x53\x43\x02\x38\x00\x00\x00\x02\x00"+strings.Repeat("\xff", 9)+"\x02")), api.ErrForm)
}

// TestAnyBytes: the decoder answers for all.
func TestAnyBytes(t *testing.T) {
	r := rand.New(rand.NewSource(1))
	for range 20000 {
		b := make([]byte, r.Intn(40))
		for i := range b {
			b[i] = byte([]int{0, 2, 4, 56, r.Intn(256)}[r.Intn(5)])
		}
		if len(b) > 3 && r.Intn(2) == 0 {
			b[0], b[1] = 0x53, 0x43
		}
		onlyItsOwn(t, b)
		if n := len(b) - 4; n < 0 || !bytes.Equal(summed(b[:n]), b) {
			refused(t, "no sum", b, api.ErrRot)
		}
	}
}

func TestText(t *testing.T) {
	c := Code{Ins: []Ins{{Int, -5, 0}, {Con, 1, 2}, {Halt, 0, 0}}, Funs: []int{0}}
	if got, want := Text(c), "0 Int -5\n1 Con 1 2\n2 Halt\n"; got != want {
		t.Errorf("%q, not %q", got, want)
	}
	var all []Ins
	want := ""
	for i, e := range rows {
		in, line := Ins{Op: i}, fmt.Sprint(i, " ", e.name)
		if e.a {
			in.A = 100 - i*7
			line += fmt.Sprint(" ", in.A)
		}
		if e.b {
			in.B = i - 11
			line += fmt.Sprint(" ", in.B)
		}
		all = append(all, in)
		want += line + "\n"
	}
	if got := Text(Code{Ins: all}); got != want {
		t.Errorf("%s, not %s", got, want)
	}
	if got := Text(Code{}); got != "" {
		t.Error(got)
	}
	for i, e := range rows {
		// What the table doesn't name isn't told.
		in := Ins{i, math.MinInt, math.MaxInt}
		want := fmt.Sprint("0 ", e.name)
		if e.a {
			want += " -9223372036854775808"
		}
		if e.b {
			want += " 9223372036854775807"
		}
		if got := Text(Code{Ins: []Ins{in}}); got != want+"\n" {
			t.Errorf("%q, not %q", got, want)
		}
	}
	for _, op := range []int{-1, 29, math.MaxInt, math.MinInt} {
		Text(Code{Ins: []Ins{{op, 1, 2}}, Funs: []int{-1}, Globals: -1})
	}
}

// TestNothingIsKept: what is handed in isn't changed or kept, and answers are new memory.
func TestNothingIsKept(t *testing.T) {
	for seed := range 200 {
		c := newWriter(seed).program()
		given := Code{Ins: append(slices.Clone(c.Ins), Ins{7, 7, 7}), Strs: append(slices.Clone(c.Strs), "left"), Funs: append(slices.Clone(c.Funs), 77), Globals: c.Globals}
		in := Code{Ins: given.Ins[:len(c.Ins)], Strs: given.Strs[:len(c.Strs)], Funs: given.Funs[:len(c.Funs)], Globals: c.Globals}
		text := Text(in)
		Verify(in)
		first, _ := Encode(in)
		second, _ := Encode(in)
		if !same(in, c) || given.Ins[len(c.Ins)] != (Ins{7, 7, 7}) || given.Strs[len(c.Strs)] != "left" || given.Funs[len(c.Funs)] != 77 {
			t.Fatal("what was handed in is changed")
		}
		clear(given.Ins)
		clear(given.Strs)
		clear(given.Funs)
		want := bytesOf(c)
		if !bytes.Equal(first, want) || text != Text(c) {
			t.Fatal("what was handed in is kept")
		}
		clear(first[:cap(first)])
		if !bytes.Equal(second, want) {
			t.Fatal("two answers share memory")
		}
		room := append(bytes.Clone(want), "left"...)
		one, _ := Decode(room[:len(want)])
		two, _ := Decode(want)
		if !bytes.Equal(room, append(bytes.Clone(want), "left"...)) {
			t.Fatal("what was handed in is changed")
		}
		clear(room)
		clear(two.Ins[:cap(two.Ins)])
		clear(two.Strs[:cap(two.Strs)])
		clear(two.Funs[:cap(two.Funs)])
		if !same(one, c) {
			t.Fatal("what was handed in is kept, or two answers share memory")
		}
	}
}
