package wire

import (
	"encoding/binary"
	"math"
	"strings"
	"testing"

	"scriptor/api"
)

// numbers are those at which one more byte is needed, on both sides.
func numbers() []int {
	l := []int{0, math.MinInt, math.MaxInt}
	for bits := range 63 {
		n := 1 << bits
		l = append(l, n-1, n, n+1, -n-1, -n, -n+1)
	}
	return l
}

// open reads a number between any two.
func open(b string) (int, *In) {
	i := Open([]byte(b))
	return i.Num(math.MinInt, math.MaxInt), i
}

func TestNum(t *testing.T) {
	for n, want := range map[int]string{
		0: "\x00", -1: "\x01", 1: "\x02", -2: "\x03", 63: "\x7E", -64: "\x7F", 64: "\x80\x01", -65: "\x81\x01",
		8191: "\xFE\x7F", 8192: "\x80\x80\x01",
		math.MaxInt: "\xFE\xFF\xFF\xFF\xFF\xFF\xFF\xFF\xFF\x01",
		math.MinInt: "\xFF\xFF\xFF\xFF\xFF\xFF\xFF\xFF\xFF\x01",
	} {
		if got := string(Num(n)); got != want {
			t.Errorf("Num(%d) = %x, not %x", n, got, want)
		}
	}
	for _, n := range numbers() {
		if got, want := Num(n), binary.AppendVarint(nil, int64(n)); string(got) != string(want) {
			t.Errorf("Num(%d) = %x, not %x", n, got, want)
		}
	}
}

func TestStr(t *testing.T) {
	for s, want := range map[string]string{
		"": "\x00", "a": "\x02a", "ab": "\x04ab", "\x00\xFF": "\x04\x00\xFF", "é": "\x04\xC3\xA9",
		strings.Repeat("x", 64): "\x80\x01" + strings.Repeat("x", 64),
	} {
		if got := string(Str(s)); got != want {
			t.Errorf("Str(%q) = %x, not %x", s, got, want)
		}
	}
}

func TestNumbersAreRead(t *testing.T) {
	for _, n := range numbers() {
		got, i := open(string(Num(n)))
		if got != n || i.Left() != 0 || i.Err() != api.OK || i.End() != api.OK {
			t.Errorf("of Num(%d) %d is read, %d", n, got, i.Err())
		}
	}
}

func TestTextsAreRead(t *testing.T) {
	for _, size := range []int{0, 1, 2, 63, 64, 65, 127, 128, 8191, 8192, 100000} {
		s := strings.Repeat("\x00é\xFF", size)[:size]
		i := Open(Str(s))
		if got := i.Str(size); got != s || i.Left() != 0 || i.End() != api.OK {
			t.Errorf("of a text of %d bytes %d are read, %d", size, len(got), i.Err())
		}
	}
}

func TestOneBehindTheOther(t *testing.T) {
	var b []byte
	for _, n := range numbers() {
		b = append(append(b, Num(n)...), Str(strings.Repeat("t", n&127))...)
	}
	i := Open(b)
	for _, n := range numbers() {
		if got := i.Num(n, n); got != n || i.Err() != api.OK {
			t.Fatalf("%d, not %d: %d", got, n, i.Err())
		}
		if got := i.Str(n & 127); len(got) != n&127 || i.Err() != api.OK {
			t.Fatalf("%q behind %d: %d", got, n, i.Err())
		}
	}
	if i.End() != api.OK {
		t.Error(i.End())
	}
}

// Whatever is read is what is written of it: so no other bytes are read as the same.
func TestNothingElseIsRead(t *testing.T) {
	check := func(b string) {
		n, i := open(b)
		if i.Err() != api.OK {
			if n != 0 || i.Left() != len(b) {
				t.Errorf("%x: %d, %d left, %d", b, n, i.Left(), i.Err())
			}
			return
		}
		if read := b[:len(b)-i.Left()]; string(Num(n)) != read {
			t.Errorf("%x is read as %d", read, n)
		}
	}
	for c := range 256 {
		check(string([]byte{byte(c)}))
		for d := range 256 {
			check(string([]byte{byte(c), byte(d)}))
			check(string([]byte{byte(c) | 128, byte(d) | 128, 0}))
			check(string([]byte{byte(c) | 128, byte(d) | 128, 1}))
		}
		for k := range 12 {
			check(strings.Repeat("\x80", k) + string([]byte{byte(c)}))
			check(strings.Repeat("\xFF", k) + string([]byte{byte(c), 0}))
		}
	}
}

func TestNumErrors(t *testing.T) {
	nine := strings.Repeat("\x80", 9)
	for b, want := range map[string]api.Errno{
		"": api.ErrTail, "\x80": api.ErrTail, "\xFF\xFF": api.ErrTail, nine: api.ErrTail, nine[1:]: api.ErrTail,
		"\x80\x00": api.ErrForm, "\xFF\x00": api.ErrForm, "\x80\x80\x00": api.ErrForm, nine + "\x00": api.ErrForm,
		nine + "\x02": api.ErrForm, nine + "\x7F": api.ErrForm, nine + "\x80": api.ErrForm, nine + "\x81": api.ErrForm,
		nine + "\xFF\x01": api.ErrForm, nine + "\x80\x00": api.ErrForm,
	} {
		n, i := open(b)
		if n != 0 || i.Err() != want || i.Left() != len(b) || i.End() != want {
			t.Errorf("%x: %d, %d, %d left, not %d", b, n, i.Err(), i.Left(), want)
		}
		// Those of the form come ahead of that of the range.
		i = Open([]byte(b))
		if n := i.Num(1, 0); n != 0 || i.Err() != want {
			t.Errorf("%x: %d, %d, not %d", b, n, i.Err(), want)
		}
	}
}

func TestNumRange(t *testing.T) {
	for _, x := range []struct {
		n, least, most int
		want           api.Errno
	}{
		{5, 5, 5, api.OK}, {5, -9, 5, api.OK}, {5, 5, 9, api.OK}, {-5, -5, -5, api.OK},
		{5, 6, 9, api.ErrBig}, {5, -9, 4, api.ErrBig}, {-6, -5, 5, api.ErrBig}, {6, -5, 5, api.ErrBig},
		{0, 1, 5, api.ErrBig}, {0, -5, -1, api.ErrBig}, {0, 1, -1, api.ErrBig}, {0, math.MaxInt, math.MinInt, api.ErrBig},
		{math.MaxInt, math.MinInt, math.MaxInt - 1, api.ErrBig}, {math.MinInt, math.MinInt + 1, math.MaxInt, api.ErrBig},
		{math.MinInt, math.MinInt, math.MinInt, api.OK}, {math.MaxInt, math.MaxInt, math.MaxInt, api.OK},
	} {
		b := append(Num(x.n), 7)
		i := Open(b)
		n, left := x.n, 1
		if x.want != api.OK {
			n, left = 0, len(b)
		}
		if got := i.Num(x.least, x.most); got != n || i.Err() != x.want || i.Left() != left {
			t.Errorf("%d between %d and %d: %d, %d, %d left", x.n, x.least, x.most, got, i.Err(), i.Left())
		}
	}
}

func TestStrErrors(t *testing.T) {
	for _, x := range []struct {
		b    string
		most int
		want api.Errno
		left int
	}{
		{"", 9, api.ErrTail, 0}, {"\x80", 9, api.ErrTail, 1}, {"\x84\x00abcd", 9, api.ErrForm, 6},
		{"\x04ab", 1, api.ErrBig, 3}, {"\x04a", 1, api.ErrBig, 2}, {"\x01ab", 9, api.ErrBig, 3},
		{"\x00", -1, api.ErrBig, 1}, {"\x04ab", math.MinInt, api.ErrBig, 3},
		// The count is read already when the bytes end.
		{"\x04a", 2, api.ErrTail, 1}, {"\x04", 2, api.ErrTail, 0}, {"\x80\x01ab", 100, api.ErrTail, 2},
		{"\xFE\xFF\xFF\xFF\xFF\xFF\xFF\xFF\xFF\x01ab", math.MaxInt, api.ErrTail, 2},
	} {
		i := Open([]byte(x.b))
		if s := i.Str(x.most); s != "" || i.Err() != x.want || i.Left() != x.left || i.End() != x.want {
			t.Errorf("%x, at most %d: %q, %d, %d left", x.b, x.most, s, i.Err(), i.Left())
		}
	}
	i := Open([]byte("\x04abc"))
	if s := i.Str(2); s != "ab" || i.Err() != api.OK || i.Left() != 1 {
		t.Error(s, i.Err(), i.Left())
	}
	if i := Open([]byte{0}); i.Str(0) != "" || i.End() != api.OK {
		t.Error("an empty text", i.Err())
	}
}

func TestAnErrorIsRemembered(t *testing.T) {
	i := Open([]byte("\x0C\x02\x02a"))
	if i.Num(0, 5) != 0 || i.Err() != api.ErrBig {
		t.Error(i.Err())
	}
	if i.Num(0, 9) != 0 || i.Str(9) != "" || i.Num(1, 0) != 0 || i.Left() != 4 {
		t.Error("it is read on behind an error")
	}
	i.Fail(api.ErrRot)
	i.Fail(api.OK)
	if i.Err() != api.ErrBig || i.End() != api.ErrBig || i.Err() != api.ErrBig {
		t.Error("another error than the first", i.Err())
	}
}

func TestFail(t *testing.T) {
	i := Open([]byte("\x02\x04"))
	i.Fail(api.OK)
	if i.Num(0, 9) != 1 || i.Err() != api.OK {
		t.Error("OK is an error", i.Err())
	}
	i.Fail(api.ErrRot)
	i.Fail(api.ErrFull)
	if i.Num(0, 9) != 0 || i.Str(9) != "" || i.Left() != 1 || i.Err() != api.ErrRot || i.End() != api.ErrRot {
		t.Error(i.Left(), i.Err())
	}
	i = Open(nil)
	i.Fail(api.ErrKeep)
	if i.Err() != api.ErrKeep || i.End() != api.ErrKeep {
		t.Error(i.Err())
	}
}

func TestEnd(t *testing.T) {
	for _, i := range []*In{Open(nil), Open([]byte{}), new(In)} {
		if i.Left() != 0 || i.Err() != api.OK || i.End() != api.OK || i.Err() != api.OK {
			t.Error("nothing", i.Err())
		}
		if i.Num(0, 9) != 0 || i.Err() != api.ErrTail || i.End() != api.ErrTail {
			t.Error("a number of nothing", i.Err())
		}
	}
	i := Open([]byte("\x02\x04"))
	if i.Num(0, 9) != 1 || i.Err() != api.OK || i.End() != api.ErrForm || i.Err() != api.ErrForm {
		t.Error("bytes are left", i.Err())
	}
	if i.Num(0, 9) != 0 || i.Left() != 1 || i.End() != api.ErrForm {
		t.Error("it is read on behind the end", i.Err())
	}
}

func TestNil(t *testing.T) {
	var i *In
	i.Fail(api.ErrRot)
	if i.Num(math.MinInt, math.MaxInt) != 0 || i.Str(9) != "" || i.Left() != 0 {
		t.Error("a nil one reads")
	}
	if i.Err() != api.ErrArg || i.End() != api.ErrArg {
		t.Error(i.Err(), i.End())
	}
}

func TestNothingIsChangedOrKept(t *testing.T) {
	b := append(Str("abc"), Num(300)...)
	room := append(b, "left"...)
	before := string(room)
	i := Open(room[:len(b)])
	for k := range room {
		room[k] = 0xFF
	}
	if i.Str(3) != "abc" || i.Num(0, 300) != 300 || i.End() != api.OK {
		t.Error("what was handed in is kept")
	}
	copy(room, before)
	i = Open(room[:len(b)])
	i.Str(3)
	i.Num(0, 300)
	i.End()
	if string(room) != before {
		t.Errorf("what was handed in is %q", room)
	}
}

func TestAnswersAreNew(t *testing.T) {
	for _, write := range []func() []byte{
		func() []byte { return Num(5) },
		func() []byte { return Num(math.MinInt) },
		func() []byte { return Str("ab") },
		func() []byte { return Str("") },
	} {
		a, b := write(), write()
		before := string(b)
		a = a[:cap(a)]
		for k := range a {
			a[k] ^= 0xFF
		}
		if string(b) != before || string(write()) != before {
			t.Errorf("two answers %x share memory", before)
		}
	}
}
