package val

import (
	"bytes"
	"fmt"
	"slices"
	"strings"
	"testing"

	"scriptor/api"
	"scriptor/num"
)

// noValue: Decode answers ErrForm, and nothing beside it.
func noValue(t *testing.T, b []byte) {
	t.Helper()
	if v, e := Decode(b); e != api.ErrForm || !isZero(v) {
		t.Errorf("%.40x: %d, %s", b, e, brief(v))
	}
}

// onlyItsOwn: b is a value's bytes, or none.
func onlyItsOwn(t *testing.T, b []byte) bool {
	t.Helper()
	v, e := Decode(b)
	if e != api.OK {
		noValue(t, b)
		return false
	}
	again, e := Encode(v)
	if e != api.OK || !bytes.Equal(again, b) || !bytes.Equal(plain(v), b) {
		t.Errorf("%.40x is decoded, but of its value the bytes are %.40x, %d", b, again, e)
	}
	return true
}

func TestNoOtherBytes(t *testing.T) {
	values := 0
	for c := range 256 {
		if onlyItsOwn(t, []byte{byte(c)}) {
			values++
		}
		for d := range 256 {
			if onlyItsOwn(t, []byte{byte(c), byte(d)}) {
				values++
			}
			for _, e := range []byte{0, 1, 2, 12, 127, 128, 255} {
				onlyItsOwn(t, []byte{byte(c), byte(d), e})
				onlyItsOwn(t, []byte{6, byte(c), byte(d), e})
				onlyItsOwn(t, []byte{8, 4, byte(c), byte(d), e})
				onlyItsOwn(t, []byte{8, 4, 12, byte(c), byte(d), e})
			}
		}
	}
	// The unit; 128 integers, a text of none, 63 objects above 0.
	if want := 1 + 128 + 1 + 63; values != want {
		t.Errorf("%d values of up to two bytes, not %d", values, want)
	}
}

func TestChangedBytes(t *testing.T) {
	for _, v := range good() {
		b := plain(v)
		if len(b) > 1000 {
			continue
		}
		for i := range b {
			noValue(t, b[:i])
			for _, x := range []byte{1, 2, 4, 8, 16, 32, 64, 128, 255} {
				c := bytes.Clone(b)
				c[i] ^= x
				onlyItsOwn(t, c)
			}
			onlyItsOwn(t, slices.Concat(b[:i], []byte{b[i] | 128, 0}, b[i+1:]))
		}
		noValue(t, append(bytes.Clone(b), 0))
		noValue(t, append(bytes.Clone(b), b...))
	}
}

func TestWrongBytes(t *testing.T) {
	noValue(t, nil)
	noValue(t, []byte{})
	for what, v := range bad() {
		// Not all of them have bytes of their own.
		if got, e := Decode(plain(v)); e != api.ErrForm && Same(got, v) {
			t.Errorf("%s is decoded", what)
		}
	}
	for _, v := range []api.Val{
		integer(1 << 62), integer(-1<<62 - 1), float(0x7FF8000000000001), {Kind: api.Float, Text: "1234567"}, {Kind: api.Float, Text: "123456789"}, {Kind: api.Float},
		text(strings.Repeat("x", 4097)), con(256), con(-1), con(0, times(9, unit)...), tuple(), tuple(unit()), tuple(times(9, unit)...),
		pref(0), pref(-1), pref(1<<40 + 1), {Kind: 7}, {Kind: -1}, within(200, unit()), within(5000, unit()),
	} {
		noValue(t, plain(v))
		noValue(t, plain(con(1, unit(), v)))
	}
	for _, s := range []string{
		"\x80\x00\x00", "\x00\x80\x00", "\x06\x00\x01", "\x06\x00\xFE\xFF\xFF\xFF\xFF\xFF\xFF\xFF\xFF\x01", "\x08\xFE\xFF\xFF\xFF\xFF\xFF\xFF\xFF\xFF\x01",
		"\x04\xFE\xFF\xFF\xFF\xFF\xFF\xFF\xFF\xFF\x01", "\x04\x01", "\x04\x02", "\x02\x0E1234567", "\x0C\x0C", "\x0C\x00",
	} {
		noValue(t, []byte(s))
	}
	for _, n := range []int{16385, 1 << 16, 1 << 24} {
		noValue(t, bytes.Repeat([]byte{6, 0, 2}, n))
		noValue(t, make([]byte, n))
	}
}

func TestSame(t *testing.T) {
	l := append(good(), api.Val{Kind: api.Str, Num: 3, Text: "t", Kids: []api.Val{pref(2)}}, api.Val{Kind: -5, Kids: []api.Val{{Kind: 99}}})
	for what, v := range bad() {
		// What is deeper than 1000 is free, and these are to stand further in.
		if what != "1000 deep" && what != "5000 deep" {
			l = append(l, v)
		}
	}
	var words []string
	for _, v := range l {
		words = append(words, fmt.Sprint(v))
	}
	for i, a := range l {
		for k, b := range l {
			want := words[i] == words[k]
			if got := Same(a, b); got != want {
				t.Errorf("%s and %s: %v", brief(a), brief(b), got)
			}
			if Same(con(1, unit(), a), con(1, unit(), b)) != want || Same(within(100, a), within(100, b)) != want {
				t.Errorf("%s and %s, further in", brief(a), brief(b))
			}
		}
	}
	if !Same(api.Val{Kids: nil}, api.Val{Kids: []api.Val{}}) {
		t.Error("nil and empty are two")
	}
	if Same(con(1), con(1, unit())) || Same(con(1, unit(), unit()), con(1, unit())) || Same(con(1, unit(), pref(1)), con(1, pref(1), unit())) {
		t.Error("other kids")
	}
	if Same(within(999, pref(1)), within(999, pref(2))) || !Same(within(999, pref(1)), within(999, pref(1))) {
		t.Error("1000 deep")
	}
}

func TestRefs(t *testing.T) {
	for _, x := range []struct {
		v    api.Val
		want []int
	}{
		{unit(), nil}, {integer(5), nil}, {con(5, integer(7), text("@1")), nil}, {pref(7), []int{7}},
		{tuple(pref(3), pref(1), pref(3)), []int{3, 1, 3}},
		{con(1, pref(9), tuple(pref(2), con(0, pref(9), pref(1))), pref(4)), []int{9, 2, 9, 1, 4}},
		{within(999, pref(1<<40)), []int{1 << 40}}, {within(998, tuple(pref(5), pref(4))), []int{5, 4}},
		// Of any values: also of those that aren't in form.
		{pref(0), []int{0}}, {pref(-4), []int{-4}}, {api.Val{Kind: api.Pref, Num: 6, Text: "t", Kids: []api.Val{pref(5), unit(), pref(6)}}, []int{6, 5, 6}},
		{api.Val{Kind: api.Int, Num: 3, Kids: []api.Val{pref(2)}}, []int{2}}, {api.Val{Kind: 99, Num: 3, Kids: times(20, func() api.Val { return pref(1) })}, slices.Repeat([]int{1}, 20)},
	} {
		if got := Refs(x.v); !slices.Equal(got, x.want) {
			t.Errorf("%s: %v, not %v", brief(x.v), got, x.want)
		}
	}
}

func TestMove(t *testing.T) {
	l := []Pair{{7, 9}, {9, 7}, {7, 1}, {1, 1 << 40}, {-3, 0}, {0, -3}}
	for _, x := range []struct{ v, want api.Val }{
		{unit(), unit()}, {integer(7), integer(7)}, {con(7, text("@7")), con(7, text("@7"))}, {float(7), float(7)},
		{pref(7), pref(9)}, {pref(9), pref(7)}, {pref(1), pref(1 << 40)},
		{tuple(pref(7), pref(9), pref(7)), tuple(pref(9), pref(7), pref(9))},
		{con(9, pref(1), con(7, tuple(pref(7), integer(1)))), con(9, pref(1<<40), con(7, tuple(pref(9), integer(1))))},
		{within(999, pref(7)), within(999, pref(9))},
		// Of any values, and to any numbers.
		{pref(0), pref(-3)}, {pref(-3), pref(0)}, {api.Val{Kind: api.Pref, Num: 7, Text: "t", Kids: []api.Val{pref(9)}}, api.Val{Kind: api.Pref, Num: 9, Text: "t", Kids: []api.Val{pref(7)}}},
		{api.Val{Kind: 99, Num: 7, Text: "t", Kids: []api.Val{pref(9), {Kind: -1}}}, api.Val{Kind: 99, Num: 7, Text: "t", Kids: []api.Val{pref(7), {Kind: -1}}}},
	} {
		if got, ok := Move(x.v, l); !ok || !Same(got, x.want) {
			t.Errorf("%s: %v, %s", brief(x.v), ok, brief(got))
		}
	}
	for _, v := range []api.Val{pref(2), tuple(pref(7), pref(2)), tuple(pref(2), pref(7)), con(0, pref(7), con(0, unit(), pref(8))), within(999, pref(2))} {
		if got, ok := Move(v, l); ok || !isZero(got) {
			t.Errorf("%s: %v, %s", brief(v), ok, brief(got))
		}
	}
	for _, none := range [][]Pair{nil, {}} {
		if _, ok := Move(pref(1), none); ok {
			t.Error("nothing stands for 1")
		}
		if got, ok := Move(con(1, unit()), none); !ok || !Same(got, con(1, unit())) {
			t.Error("it names none")
		}
	}
}

func TestText(t *testing.T) {
	for want, v := range map[string]api.Val{
		"0": integer(0), "-1": integer(-1), "4611686018427387903": integer(num.Most), "-4611686018427387904": integer(num.Least),
		"3ff0000000000000": float(0x3FF0000000000000), "0000000000000000": float(0), "8000000000000000": float(1 << 63), "7ff8000000000000": float(0x7FF8 << 48),
		`""`: text(""), `"a b"`: text("a b"), `"\"\\"`: text("\"\\"), `"\x00\x1f ~\x7f\x80\xff"`: text("\x00\x1F ~\x7F\x80\xFF"), `"\xc3\xa9"`: text("é"), `"\x0a,()"`: text("\n,()"),
		"C0": con(0), "C255": con(255), "C2(())": con(2, unit()), "C2(1,C0,C1(2))": con(2, integer(1), con(0), con(1, integer(2))),
		"(1,2)": tuple(integer(1), integer(2)), `(1,"a\"b")`: tuple(integer(1), text(`a"b`)), "((),((),()))": tuple(unit(), tuple(unit(), unit())),
		"@1": pref(1), "@1099511627776": pref(1 << 40), "()": unit(),
		strings.Repeat("C0(", 199) + "()" + strings.Repeat(")", 199): within(199, unit()),
	} {
		if got := Text(v); got != want {
			t.Errorf("%.60s, not %.60s", got, want)
		}
	}
	for c := range 256 {
		want := string([]byte{byte(c)})
		switch {
		case c == '"' || c == '\\':
			want = `\` + want
		case c < 32 || c > 126:
			want = fmt.Sprintf(`\x%02x`, c)
		}
		if got := Text(text(string([]byte{byte(c)}))); got != `"`+want+`"` {
			t.Errorf("byte %d: %s", c, got)
		}
	}
}

// Two values have one text only if they are the same.
func TestTextsAreTwo(t *testing.T) {
	seen := map[string]api.Val{}
	for _, v := range good() {
		if w, there := seen[Text(v)]; there && !Same(v, w) && v.Kind == w.Kind {
			t.Errorf("%s and %s", brief(v), brief(w))
		}
		seen[Text(v)] = v
	}
}

// all calls every call: each must end, and none may panic.
func all(v api.Val) {
	Check(v)
	Encode(v)
	Same(v, v)
	Refs(v)
	Move(v, nil)
	Move(v, []Pair{{1, 2}})
	Text(v)
}

// shared is a value of few lists, of which each is shared by all of the next one.
func shared(v api.Val) api.Val {
	for range 199 {
		v = con(1, slices.Repeat([]api.Val{v}, 8)...)
	}
	return v
}

func TestValuesWithoutEnd(t *testing.T) {
	for _, kind := range []int{api.Int, api.Str, api.Con, api.Tuple, api.Pref, 99} {
		for n := 1; n < 9; n++ {
			kids := make([]api.Val, n)
			for i := range kids {
				kids[i] = api.Val{Kind: kind, Num: 1, Kids: kids}
			}
			all(kids[0])
			refused(t, "a value within itself", kids[0], api.ErrForm)
		}
	}
	for _, n := range []int{1000, 1001, 1 << 16} {
		all(within(n, pref(1)))
	}
	v := shared(con(1))
	if !Same(v, v) || !Same(v, shared(con(1))) || Same(v, shared(con(2))) || Same(v, v.Kids[0]) {
		t.Error("lists that are shared aren't held against each other")
	}
	refused(t, "more than can be gone through", v, api.ErrBig)
	refused(t, "one more", con(1, v), api.ErrForm)
	refused(t, "one that isn't in form behind it", tuple(v.Kids[0], pref(0)), api.ErrForm)
	Text(v)
}

func TestNothingIsChangedOrKept(t *testing.T) {
	for _, v := range good() {
		room := append(slices.Clone(v.Kids), text("left"), text("over"))
		in := v
		in.Kids = room[:len(v.Kids)]
		before := fmt.Sprint(room)
		pairs := append(make([]Pair, 0, 9), Pair{5, 6}, Pair{6, 7}, Pair{1, 2}, Pair{1 << 40, 3}, Pair{4, 4})
		all(in)
		Move(in, pairs)
		if fmt.Sprint(room) != before || !slices.Equal(pairs[:cap(pairs)], append([]Pair{{5, 6}, {6, 7}, {1, 2}, {1 << 40, 3}, {4, 4}}, make([]Pair, 4)...)) {
			t.Errorf("what was handed in is changed: %s", brief(v))
		}
		b := append(plain(v), "left"...)
		whole := bytes.Clone(b)
		got, e := Decode(b[:len(b)-4])
		if !bytes.Equal(b, whole) || e != api.OK {
			t.Errorf("what was handed in is changed: %s", brief(v))
		}
		for i := range b {
			b[i] ^= 0xFF
		}
		if !Same(got, v) {
			t.Errorf("what was handed in is kept: %s", brief(v))
		}
	}
}

// spoil changes all lists of a value, and their spare room.
func spoil(v api.Val) {
	kids := v.Kids[:cap(v.Kids)]
	for i := range kids {
		spoil(kids[i])
		kids[i] = text("spoilt")
	}
}

func TestAnswersAreNew(t *testing.T) {
	inner := []api.Val{pref(5), unit()}
	v := con(1, tuple(inner...), tuple(inner...), con(2, inner[:1]...))
	want := plain(v)
	moved, _ := Move(v, []Pair{{5, 5}})
	decoded, _ := Decode(want)
	for _, got := range []api.Val{moved, decoded} {
		spoil(got.Kids[0])
		if Same(got, v) || !Same(got.Kids[1], tuple(inner...)) || !Same(got.Kids[2], con(2, inner[0])) {
			t.Error("two lists of an answer share memory")
		}
		spoil(got)
	}
	if !bytes.Equal(plain(v), want) {
		t.Error("an answer shares memory with what was handed in")
	}
	for range 2 {
		b, _ := Encode(v)
		if !bytes.Equal(b, want) {
			t.Error("two answers share memory")
		}
		clear(b[:cap(b)])
		refs := Refs(v)
		if !slices.Equal(refs, []int{5, 5, 5}) {
			t.Error("two answers share memory", refs)
		}
		clear(refs[:cap(refs)])
		if d, _ := Decode(want); !Same(d, v) {
			t.Error("two answers share memory")
		}
	}
}
