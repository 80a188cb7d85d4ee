package val

import (
	"bytes"
	"encoding/binary"
	"fmt"
	"math"
	"strings"
	"testing"

	"scriptor/api"
)

func integer(n int) api.Val  { return api.Val{Num: n} }
func text(s string) api.Val  { return api.Val{Kind: api.Str, Text: s} }
func pref(n int) api.Val     { return api.Val{Kind: api.Pref, Num: n} }
func unit() api.Val          { return api.Val{Kind: api.Unit} }
func float(x uint64) api.Val { return api.Val{Kind: api.Float, Text: eight(x)} }

func con(n int, kids ...api.Val) api.Val {
	return api.Val{Kind: api.Con, Num: n, Kids: kids}
}

func tuple(kids ...api.Val) api.Val {
	return api.Val{Kind: api.Tuple, Kids: kids}
}

func eight(x uint64) string { return string(binary.BigEndian.AppendUint64(nil, x)) }

// times is so many values, each of its own memory.
func times(n int, v func() api.Val) []api.Val {
	var l []api.Val
	for range n {
		l = append(l, v())
	}
	return l
}

// within is a value, within so many others.
func within(n int, v api.Val) api.Val {
	for range n {
		v = con(0, v)
	}
	return v
}

// good are values in form, at all edges that are named.
func good() []api.Val {
	return []api.Val{
		integer(0), integer(1), integer(-1), integer(63), integer(64), integer(-64), integer(-65), integer(1<<62 - 1), integer(-1 << 62),
		float(0), float(1 << 63), float(math.Float64bits(1)), float(math.Float64bits(math.Inf(1))), float(math.Float64bits(math.Inf(-1))),
		float(0x7FF8000000000000), float(0x7FEFFFFFFFFFFFFF), float(0xFFEFFFFFFFFFFFFF), float(1),
		text(""), text("a"), text("a\"\\\n\x00\xFF"), text(strings.Repeat("x", 63)), text(strings.Repeat("x", 64)), text(strings.Repeat("\x00", 4096)),
		con(0), con(255), con(1, integer(1)), con(255, times(8, unit)...), con(3, con(2, con(1, con(0)))),
		tuple(integer(1), integer(2)), tuple(times(8, unit)...), tuple(tuple(unit(), unit()), text("t")),
		pref(1), pref(1 << 40), unit(), con(7, pref(5), tuple(pref(6), pref(5))),
		within(199, unit()), within(199, con(9)), tuple(within(198, text("deep")), unit(), within(198, pref(4))),
	}
}

// plain says a second time what the document says of the bytes.
func plain(v api.Val) []byte {
	number := func(n int) []byte { return binary.AppendVarint(nil, int64(n)) }
	b := number(v.Kind)
	switch v.Kind {
	case 0, 5:
		b = append(b, number(v.Num)...)
	case 1, 2:
		b = append(append(b, number(len(v.Text))...), v.Text...)
	case 3:
		b = append(b, number(v.Num)...)
	}
	if v.Kind == 3 || v.Kind == 4 {
		b = append(b, number(len(v.Kids))...)
		for _, k := range v.Kids {
			b = append(b, plain(k)...)
		}
	}
	return b
}

// brief is what of a value a report tells.
func brief(v api.Val) string {
	s := fmt.Sprint(v)
	return s[:min(len(s), 60)]
}

func isZero(v api.Val) bool {
	return v.Kind == 0 && v.Num == 0 && v.Text == "" && v.Kids == nil
}

// refused: Check and Encode answer that, and nothing beside it.
func refused(t *testing.T, what string, v api.Val, want api.Errno) {
	t.Helper()
	if e := Check(v); e != want {
		t.Errorf("%s: Check answers %d, not %d", what, e, want)
	}
	if b, e := Encode(v); e != want || b != nil {
		t.Errorf("%s: Encode answers %d bytes, %d, not %d", what, len(b), e, want)
	}
}

// isRead: v is in form, has these bytes, and comes back from them.
func isRead(t *testing.T, v api.Val, want []byte) {
	t.Helper()
	b, e := Encode(v)
	if e != api.OK || Check(v) != api.OK || !bytes.Equal(b, want) {
		t.Fatalf("%s: %d, %.40x, not %.40x", brief(v), e, b, want)
	}
	if got, e := Decode(b); e != api.OK || !Same(got, v) || !bytes.Equal(plain(got), want) {
		t.Errorf("%.40x: %d, %s", b, e, brief(got))
	}
}

func TestBytes(t *testing.T) {
	for want, v := range map[string]api.Val{
		"\x00\x00": integer(0), "\x00\x01": integer(-1), "\x00\x80\x01": integer(64),
		"\x00\xFE\xFF\xFF\xFF\xFF\xFF\xFF\xFF\x7F": integer(1<<62 - 1), "\x00\xFF\xFF\xFF\xFF\xFF\xFF\xFF\xFF\x7F": integer(-1 << 62),
		"\x02\x10\x3F\xF0\x00\x00\x00\x00\x00\x00": float(math.Float64bits(1)), "\x02\x10\x7F\xF8\x00\x00\x00\x00\x00\x00": float(0x7FF8 << 48),
		"\x04\x00": text(""), "\x04\x04ab": text("ab"),
		"\x06\x04\x00": con(2), "\x06\x04\x02\x0C": con(2, unit()), "\x06\xFE\x03\x00": con(255),
		"\x08\x04\x00\x02\x0C": tuple(integer(1), unit()), "\x0A\x02": pref(1), "\x0A\x80\x80\x80\x80\x80\x40": pref(1 << 40), "\x0C": unit(),
	} {
		isRead(t, v, []byte(want))
	}
}

func TestGoodValues(t *testing.T) {
	for _, v := range good() {
		isRead(t, v, plain(v))
		isRead(t, con(5, v.Kids...), plain(con(5, v.Kids...)))
	}
	for n := range 256 {
		isRead(t, con(n), plain(con(n)))
	}
	for n := range 9 {
		isRead(t, con(1, times(n, unit)...), plain(con(1, times(n, unit)...)))
		if n >= 2 {
			isRead(t, tuple(times(n, unit)...), plain(tuple(times(n, unit)...)))
		}
	}
	// Nil and empty lists are one.
	isRead(t, api.Val{Kind: api.Unit, Kids: []api.Val{}}, []byte{12})
}

// bad are values that aren't in form, each for one cause.
func bad() map[string]api.Val {
	l := map[string]api.Val{
		"an integer too great": integer(1 << 62), "an integer too small": integer(-1<<62 - 1), "the greatest number": integer(math.MaxInt), "the least number": integer(math.MinInt),
		"a float without bytes": {Kind: api.Float}, "a float of seven": {Kind: api.Float, Text: "1234567"}, "a float of nine": {Kind: api.Float, Text: "123456789"},
		"another NaN": float(0x7FF8000000000001), "a NaN below 0": float(0xFFF8000000000000), "a NaN that tells": float(0x7FF0000000000001), "the last NaN": float(math.MaxUint64),
		"a text too long":   text(strings.Repeat("x", 4097)),
		"a constructor 256": con(256), "a constructor -1": con(-1), "a constructor far off": con(math.MinInt), "a constructor of nine": con(0, times(9, unit)...),
		"a tuple of none": tuple(), "a tuple of one": tuple(unit()), "a tuple of nine": tuple(times(9, unit)...),
		"object 0": pref(0), "object -1": pref(-1), "an object too great": pref(1<<40 + 1), "the greatest object": pref(math.MaxInt),
		"kind 7": {Kind: 7}, "kind -1": {Kind: -1}, "kind far off": {Kind: math.MaxInt}, "kind 256": {Kind: 256},
		"201 deep": within(200, unit()), "1000 deep": within(999, unit()), "5000 deep": within(4999, unit()),
		"a kid too deep": tuple(unit(), within(199, unit())),
	}
	names := []string{"Int", "Float", "Str", "Con", "Tuple", "Pref", "Unit"}
	for k, v := range []api.Val{integer(1), float(0), text("a"), con(1, unit()), tuple(unit(), unit()), pref(1), unit()} {
		num, txt, kids := v, v, v
		num.Num, txt.Text, kids.Kids = 1, "12345678", []api.Val{unit(), unit()}
		if k != api.Int && k != api.Con && k != api.Pref {
			l[names[k]+" with a number"] = num
		}
		if k != api.Float && k != api.Str {
			l[names[k]+" with a text"] = txt
		}
		if k != api.Con && k != api.Tuple {
			l[names[k]+" with kids"] = kids
		}
	}
	return l
}

func TestBadValues(t *testing.T) {
	for what, v := range bad() {
		refused(t, what, v, api.ErrForm)
		refused(t, what+", as a kid", con(0, unit(), v), api.ErrForm)
		refused(t, what+", as the first kid", tuple(v, unit()), api.ErrForm)
		refused(t, what+", far in", within(150, tuple(unit(), v)), api.ErrForm)
	}
}

func TestDepth(t *testing.T) {
	for n := range 200 {
		isRead(t, within(n, unit()), plain(within(n, unit())))
	}
	refused(t, "201 deep", within(200, unit()), api.ErrForm)
	// The deepest of a value's parts counts, wherever it stands.
	for i := range 8 {
		kids := times(8, unit)
		kids[i] = within(198, unit())
		isRead(t, tuple(kids...), plain(tuple(kids...)))
		kids[i] = within(199, unit())
		refused(t, "a kid 200 deep", tuple(kids...), api.ErrForm)
	}
	// One list at several depths.
	shared := within(150, unit())
	for _, v := range []api.Val{tuple(shared, within(48, shared)), tuple(within(48, shared), shared)} {
		isRead(t, v, plain(v))
	}
	refused(t, "a list shared too deep", tuple(shared, within(49, shared)), api.ErrForm)
	refused(t, "a list shared too deep", tuple(within(49, shared), shared), api.ErrForm)
}

func TestCountOfBytes(t *testing.T) {
	full := text(strings.Repeat("x", 4096)) // 4099 bytes
	rest := 16384 - (3 + 3*4099)
	// What is left for the last text has a byte for its kind and two for its count.
	for size, want := range map[int]api.Errno{rest - 4: api.OK, rest - 3: api.OK, rest - 2: api.ErrBig, rest - 1: api.ErrBig} {
		v := con(1, full, full, full, text(strings.Repeat("y", size)))
		if got := len(plain(v)); got != size+16384-rest+3 {
			t.Fatal("reckoned wrongly", got)
		}
		if want == api.OK {
			isRead(t, v, plain(v))
			continue
		}
		refused(t, "too many bytes", v, want)
		if _, e := Decode(plain(v)); e != api.ErrForm {
			t.Errorf("too many bytes are decoded: %d", e)
		}
	}
	refused(t, "four texts", tuple(full, full, full, full), api.ErrBig)
	many := unit
	for range 5 {
		kid := many
		many = func() api.Val { return con(0, times(8, kid)...) }
	}
	refused(t, "many small ones", many(), api.ErrBig)
}

// Of both errors the first one is answered, wherever it stands.
func TestFormComesAheadOfSize(t *testing.T) {
	full := text(strings.Repeat("x", 4096))
	for what, v := range bad() {
		refused(t, what+" behind", tuple(full, full, full, full, v), api.ErrForm)
		refused(t, what+" ahead", tuple(v, full, full, full, full), api.ErrForm)
	}
}
