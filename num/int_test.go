package num

import (
	"math"
	"math/big"
	"strings"
	"testing"

	"scriptor/api"
)

// edges are whole numbers of 64 bits at which something goes round, and some between.
func edges() []int {
	l := []int{0, math.MinInt, math.MaxInt}
	for _, n := range []int{2, 3, 7, 10, 1000, 1 << 31, 1 << 32, 1 << 53, 1 << 61, Most, 3037000500} {
		l = append(l, n-1, n, n+1, -n-1, -n, -n+1)
	}
	return append(l, math.MinInt+1, math.MaxInt-1, math.MinInt+2, Least+1)
}

// wrapped is Wrap as the document has it, of numbers of any size.
func wrapped(n *big.Int) int {
	round := new(big.Int).Lsh(big.NewInt(1), 63)
	m := new(big.Int).Mod(n, round)
	if m.Cmp(big.NewInt(Most)) > 0 {
		m.Sub(m, round)
	}
	return int(m.Int64())
}

func ints(a, b int) (*big.Int, *big.Int, *big.Int) {
	return big.NewInt(int64(a)), big.NewInt(int64(b)), new(big.Int)
}

func TestWrap(t *testing.T) {
	for _, n := range edges() {
		if got, want := Wrap(n), wrapped(big.NewInt(int64(n))); got != want {
			t.Errorf("Wrap(%d) = %d, not %d", n, got, want)
		}
	}
	for n, want := range map[int]int{
		Most: Most, Least: Least, Most + 1: Least, Least - 1: Most,
		math.MaxInt: -1, math.MinInt: 0, math.MinInt + 1: 1,
	} {
		if got := Wrap(n); got != want {
			t.Errorf("Wrap(%d) = %d, not %d", n, got, want)
		}
	}
}

func TestSumDifferenceProduct(t *testing.T) {
	for _, a := range edges() {
		for _, b := range edges() {
			x, y, z := ints(a, b)
			if got, want := Add(a, b), wrapped(z.Add(x, y)); got != want {
				t.Errorf("Add(%d, %d) = %d, not %d", a, b, got, want)
			}
			if got, want := Sub(a, b), wrapped(z.Sub(x, y)); got != want {
				t.Errorf("Sub(%d, %d) = %d, not %d", a, b, got, want)
			}
			if got, want := Mul(a, b), wrapped(z.Mul(x, y)); got != want {
				t.Errorf("Mul(%d, %d) = %d, not %d", a, b, got, want)
			}
		}
	}
	if Add(Most, 1) != Least || Sub(Least, 1) != Most || Mul(Least, -1) != Least || Mul(Most, Most) != 1 {
		t.Error("what is beyond Most doesn't go round")
	}
}

func TestQuotientAndRest(t *testing.T) {
	for _, a := range edges() {
		for _, b := range edges() {
			x, y, z := ints(Wrap(a), Wrap(b))
			if y.Sign() == 0 {
				continue
			}
			if q, e := Div(a, b); e != api.OK || q != wrapped(z.Quo(x, y)) {
				t.Errorf("Div(%d, %d) = %d, %d, not %d", a, b, q, e, z)
			}
			if r, e := Rem(a, b); e != api.OK || r != wrapped(z.Rem(x, y)) {
				t.Errorf("Rem(%d, %d) = %d, %d, not %d", a, b, r, e, z)
			}
		}
	}
	if q, e := Div(Least, -1); q != Least || e != api.OK {
		t.Error("Div(Least, -1)", q, e)
	}
	if r, e := Rem(Least, -1); r != 0 || e != api.OK {
		t.Error("Rem(Least, -1)", r, e)
	}
}

func TestNothingIsDividedBy0(t *testing.T) {
	for _, a := range edges() {
		// math.MinInt is 0 when it is wrapped.
		for _, b := range []int{0, math.MinInt} {
			if q, e := Div(a, b); q != 0 || e != api.ErrArg {
				t.Errorf("Div(%d, %d) = %d, %d", a, b, q, e)
			}
			if r, e := Rem(a, b); r != 0 || e != api.ErrArg {
				t.Errorf("Rem(%d, %d) = %d, %d", a, b, r, e)
			}
		}
	}
}

func TestRead(t *testing.T) {
	for s, want := range map[string]int{
		"0": 0, "-0": 0, "7": 7, "-7": -7, "007": 7, "-007": -7, "10": 10, "1234567890": 1234567890,
		"4611686018427387903": Most, "-4611686018427387904": Least,
		"4611686018427387899": Most - 4, "-4611686018427387903": Least + 1,
		strings.Repeat("0", 100) + "12": 12, "-" + strings.Repeat("0", 100): 0,
	} {
		if n, e := Read(s); n != want || e != api.OK {
			t.Errorf("Read(%q) = %d, %d", s, n, e)
		}
	}
}

func TestReadRefuses(t *testing.T) {
	long := strings.Repeat("9", 1000)
	for s, want := range map[string]api.Errno{
		"": api.ErrForm, "-": api.ErrForm, "--1": api.ErrForm, "+1": api.ErrForm, "1-": api.ErrForm,
		" 1": api.ErrForm, "1 ": api.ErrForm, "1_0": api.ErrForm, "0x1": api.ErrForm, "1.0": api.ErrForm,
		"1\x00": api.ErrForm, "/": api.ErrForm, ":": api.ErrForm, "\xff": api.ErrForm, "٣": api.ErrForm,
		// What isn't in form isn't too big, however many digits stand ahead.
		long + "x": api.ErrForm, long + "-": api.ErrForm,
		"4611686018427387904": api.ErrBig, "-4611686018427387905": api.ErrBig,
		"4611686018427387910": api.ErrBig, "-4611686018427387910": api.ErrBig,
		"9223372036854775808": api.ErrBig, "-9223372036854775808": api.ErrBig,
		"18446744073709551616": api.ErrBig, "18446744073709551617": api.ErrBig,
		"46116860184273879030": api.ErrBig, long: api.ErrBig, "-" + long: api.ErrBig,
	} {
		if n, e := Read(s); n != 0 || e != want {
			t.Errorf("Read(%q) = %d, %d, not %d", s, n, e, want)
		}
	}
}

func TestText(t *testing.T) {
	for n, want := range map[int]string{
		0: "0", 5: "5", -5: "-5", 100: "100", Most: "4611686018427387903", Least: "-4611686018427387904",
		Most + 1: "-4611686018427387904", math.MaxInt: "-1", math.MinInt: "0",
	} {
		if got := Text(n); got != want {
			t.Errorf("Text(%d) = %q, not %q", n, got, want)
		}
	}
}

func TestTextIsRead(t *testing.T) {
	for _, n := range edges() {
		if got, e := Read(Text(n)); got != Wrap(n) || e != api.OK {
			t.Errorf("Read(Text(%d)) = %d, %d", n, got, e)
		}
	}
}
