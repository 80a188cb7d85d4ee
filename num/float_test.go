package num

import (
	"math"
	"math/big"
	"testing"

	"scriptor/api"
)

const (
	zero      Float = 0
	minusZero Float = 1 << 63
	one       Float = 0x3FF0000000000000
	inf       Float = 0x7FF0000000000000
	minusInf  Float = 0xFFF0000000000000
	tiny      Float = 1
	greatest  Float = 0x7FEFFFFFFFFFFFFF
)

// otherNans are those that aren't Nan: with a sign, quiet ones, signalling ones.
func otherNans() []Float {
	return []Float{0xFFF8000000000000, 0x7FF8000000000001, 0x7FF0000000000001, 0xFFF0000000000001, 0x7FFFFFFFFFFFFFFF, math.MaxUint64}
}

// rising are floats, none a NaN, each one ahead of the next.
func rising() []Float {
	above := []Float{zero, tiny, 2, 3, 0x000FFFFFFFFFFFFF, 0x0010000000000000, 0x3FB999999999999A,
		0x3FE0000000000000, 0x3FEFFFFFFFFFFFFF, one, 0x3FF0000000000001, 0x3FF8000000000000,
		0x4000000000000000, 0x4008000000000000, Of(1 << 52), Of(1<<53 - 1), Of(1 << 53), Of(1 << 62), greatest, inf}
	var l []Float
	for i := range above {
		l = append(l, above[len(above)-1-i]|minusZero)
	}
	return append(l, above...)
}

func finite(x Float) bool { return x&^minusZero < inf }

// nearest is the float nearest to r, ties to even; of 0 without a sign.
func nearest(r *big.Rat) Float {
	f, _ := r.Float64()
	return Float(math.Float64bits(f))
}

func rat(x Float) *big.Rat { return new(big.Rat).SetFloat64(math.Float64frombits(uint64(x))) }

func TestOf(t *testing.T) {
	for _, x := range rising() {
		f := math.Float64frombits(uint64(x))
		if Of(f) != x || math.Float64bits(x.Go()) != uint64(x) {
			t.Errorf("%s isn't of its bits", x.Bits())
		}
	}
	for _, x := range append(otherNans(), Nan) {
		if Of(math.Float64frombits(uint64(x))) != Nan || !math.IsNaN(x.Go()) {
			t.Errorf("%s isn't Nan", x.Bits())
		}
	}
	if math.Float64bits(Nan.Go()) != uint64(Nan) {
		t.Error("Go of Nan has other bits")
	}
}

func TestRounding(t *testing.T) {
	check := func(name string, x, y, got Float, want *big.Rat) {
		// The signs of noughts are asked elsewhere.
		if w := nearest(want); got != w && !(w == zero && got == minusZero) {
			t.Errorf("%s of %s and %s = %s, not %s", name, x.Bits(), y.Bits(), got.Bits(), w.Bits())
		}
	}
	for _, x := range rising() {
		for _, y := range rising() {
			if !finite(x) || !finite(y) {
				continue
			}
			a, b, r := rat(x), rat(y), new(big.Rat)
			check("Plus", x, y, x.Plus(y), r.Add(a, b))
			check("Minus", x, y, x.Minus(y), r.Sub(a, b))
			check("Times", x, y, x.Times(y), r.Mul(a, b))
			if b.Sign() != 0 {
				check("Over", x, y, x.Over(y), r.Quo(a, b))
			}
		}
	}
}

func TestTiesToEven(t *testing.T) {
	half, ulp := Of(0.5), Of(0x1p-53)
	for i, p := range [][2]Float{
		{one.Plus(ulp), one},
		{(one + 1).Plus(ulp), one + 2},
		{tiny.Times(half), zero},
		{Float(3).Times(half), 2},
		{Of(1 << 53).Plus(one), Of(1 << 53)},
		{Of(1<<53 + 2).Plus(one), Of(1<<53 + 4)},
		{greatest.Plus(greatest), inf},
		{OfInt(1<<53 + 1), Of(1 << 53)},
		{OfInt(1<<53 + 3), Of(1<<53 + 4)},
	} {
		if p[0] != p[1] {
			t.Errorf("%d: %s, not %s", i, p[0].Bits(), p[1].Bits())
		}
	}
}

func TestRoot(t *testing.T) {
	for _, x := range rising() {
		want := x
		switch {
		case x == zero || x == minusZero || x == inf:
		case x > minusZero:
			want = Nan
		default:
			a := new(big.Float).SetPrec(300).SetRat(rat(x))
			f, _ := a.Sqrt(a).Float64()
			want = Float(math.Float64bits(f))
		}
		if got := x.Root(); got != want {
			t.Errorf("Root of %s = %s, not %s", x.Bits(), got.Bits(), want.Bits())
		}
	}
}

func TestNoughtsAndInfinities(t *testing.T) {
	for i, p := range [][2]Float{
		{one.Over(zero), inf}, {one.Over(minusZero), minusInf}, {one.Over(inf), zero}, {one.Over(minusInf), minusZero},
		{zero.Plus(minusZero), zero}, {minusZero.Plus(minusZero), minusZero}, {minusZero.Minus(zero), minusZero},
		{zero.Minus(zero), zero}, {one.Minus(one), zero}, {zero.Times(one.Neg()), minusZero},
		{minusZero.Times(minusZero), zero}, {minusZero.Over(one), minusZero}, {tiny.Neg().Times(Of(0.5)), minusZero},
		{inf.Plus(one), inf}, {inf.Plus(inf), inf}, {inf.Times(minusInf), minusInf}, {minusInf.Minus(inf), minusInf},
		{zero.Neg(), minusZero}, {minusZero.Neg(), zero}, {inf.Neg(), minusInf}, {one.Neg(), one | minusZero},
		{inf.Minus(inf), Nan}, {inf.Plus(minusInf), Nan}, {zero.Times(inf), Nan}, {minusInf.Times(zero), Nan},
		{zero.Over(zero), Nan}, {minusZero.Over(zero), Nan}, {inf.Over(inf), Nan}, {minusInf.Root(), Nan},
	} {
		if p[0] != p[1] {
			t.Errorf("%d: %s, not %s", i, p[0].Bits(), p[1].Bits())
		}
	}
}

func TestOneNan(t *testing.T) {
	for _, n := range append(otherNans(), Nan) {
		if n.Root() != Nan || n.Neg() != Nan {
			t.Errorf("of %s another NaN is made", n.Bits())
		}
		for _, y := range append(rising(), append(otherNans(), Nan)...) {
			for _, z := range []Float{n.Plus(y), n.Minus(y), n.Times(y), n.Over(y), y.Plus(n), y.Minus(n), y.Times(n), y.Over(n)} {
				if z != Nan {
					t.Errorf("of %s and %s %s is made", n.Bits(), y.Bits(), z.Bits())
				}
			}
		}
	}
}

func TestLessAndSame(t *testing.T) {
	l := rising()
	for i, x := range l {
		for j, y := range l {
			noughts := x&^minusZero == zero && y&^minusZero == zero
			if got := x.Less(y); got != (i < j && !noughts) {
				t.Errorf("Less of %s and %s: %v", x.Bits(), y.Bits(), got)
			}
			if got := x.Same(y); got != (i == j || noughts) {
				t.Errorf("Same of %s and %s: %v", x.Bits(), y.Bits(), got)
			}
		}
		for _, n := range append(otherNans(), Nan) {
			if n.Less(x) || x.Less(n) || n.Same(x) || x.Same(n) || n.Less(n) || n.Same(n) {
				t.Errorf("%s is compared with %s", n.Bits(), x.Bits())
			}
		}
	}
}

func TestAhead(t *testing.T) {
	l := rising()
	for i, x := range l {
		for j, y := range l {
			if got := x.Ahead(y); got != (i < j) {
				t.Errorf("Ahead of %s and %s: %v", x.Bits(), y.Bits(), got)
			}
		}
		for _, n := range append(otherNans(), Nan) {
			if !n.Ahead(x) || x.Ahead(n) || n.Ahead(Nan) || Nan.Ahead(n) {
				t.Errorf("%s isn't ahead of %s", n.Bits(), x.Bits())
			}
		}
	}
}

func TestWhole(t *testing.T) {
	for f, want := range map[float64]int{
		0: 0, 0.5: 0, -0.5: 0, 0x1p-1074: 0, 0.9999999999999999: 0, 1: 1, 1.5: 1, 2.9: 2, -1: -1, -2.9: -2,
		1<<53 + 2: 1<<53 + 2, 4503599627370495.5: 4503599627370495, -4503599627370495.5: -4503599627370495,
		-1 << 62: Least, 1<<62 - 512: Most - 511, -1<<62 + 512: Least + 512,
	} {
		if n, e := Of(f).Whole(); n != want || e != api.OK {
			t.Errorf("Whole of %g = %d, %d", f, n, e)
		}
	}
	if n, e := minusZero.Whole(); n != 0 || e != api.OK {
		t.Error("Whole of -0", n, e)
	}
	wrong := []Float{Nan, inf, minusInf, greatest, greatest.Neg(), Of(1 << 62), Of(-1<<62 - 1024), Of(1 << 63), Of(-1 << 63), Of(1 << 64)}
	for _, x := range append(wrong, otherNans()...) {
		if n, e := x.Whole(); n != 0 || e != api.ErrArg {
			t.Errorf("Whole of %s = %d, %d", x.Bits(), n, e)
		}
	}
}

func TestOfInt(t *testing.T) {
	more := []int{1<<53 + 1, 1<<53 + 3, 1<<54 + 2, 1<<54 + 6, Most - 255, Most - 256, Most - 257, Least + 256, Least + 257, Least + 768}
	for _, n := range append(edges(), more...) {
		want := nearest(new(big.Rat).SetInt64(int64(Wrap(n))))
		if got := OfInt(n); got != want {
			t.Errorf("OfInt(%d) = %s, not %s", n, got.Bits(), want.Bits())
		}
	}
	if OfInt(math.MinInt) != zero || OfInt(math.MaxInt) != one.Neg() || OfInt(Most) != Of(1<<62) || OfInt(Least) != Of(-1<<62) {
		t.Error("what is beyond Most isn't wrapped")
	}
}

func TestReadFloat(t *testing.T) {
	for _, s := range []string{
		"0.0", "0.1", "-0.1", "0.5", "1.0", "-2.5", "3.14159265358979", "00.10", "007.5", "0.00000000000001",
		"99999999999999.9", "9.99999999999999", "12345678901234.5", "-99999999999999.9", "00000000000000.0",
		"0.3", "1.1", "2.675", "1234567.12345678", "0.99999999999999", "90071992547409.9", "4503599627370.49",
	} {
		want, ok := new(big.Rat).SetString(s)
		if x, e := ReadFloat(s); !ok || x != nearest(want) || e != api.OK {
			t.Errorf("ReadFloat(%q) = %s, %d", s, x.Bits(), e)
		}
	}
	for _, s := range []string{"-0.0", "-00.00", "-0.00000000000000"} {
		if x, e := ReadFloat(s); x != minusZero || e != api.OK {
			t.Errorf("ReadFloat(%q) = %s, %d", s, x.Bits(), e)
		}
	}
}

func TestReadFloatOfManyDigits(t *testing.T) {
	seed := uint64(1)
	for range 20000 {
		seed = seed*6364136223846793005 + 1442695040888963407
		digits := Text(1e14 + int(seed>>11)%900000000000000)
		point := 1 + int(seed>>3)%14
		s := digits[:point] + "." + digits[point:]
		want, _ := new(big.Rat).SetString(s)
		if x, e := ReadFloat(s); x != nearest(want) || e != api.OK {
			t.Fatalf("ReadFloat(%q) = %s, %d, not %s", s, x.Bits(), e, nearest(want).Bits())
		}
	}
}

func TestReadFloatRefuses(t *testing.T) {
	for s, want := range map[string]api.Errno{
		"": api.ErrForm, "-": api.ErrForm, ".": api.ErrForm, "-.": api.ErrForm, "1": api.ErrForm, "1.": api.ErrForm,
		".5": api.ErrForm, "-.5": api.ErrForm, "+1.0": api.ErrForm, "--1.0": api.ErrForm, "1.-0": api.ErrForm,
		"1.0.0": api.ErrForm, "1..0": api.ErrForm, "1,0": api.ErrForm, "1e5": api.ErrForm, "1.0e5": api.ErrForm,
		" 1.0": api.ErrForm, "1.0 ": api.ErrForm, "1_0.0": api.ErrForm, "0x1.0": api.ErrForm, "nan": api.ErrForm,
		"inf": api.ErrForm, "1.0\x00": api.ErrForm, "\xff.0": api.ErrForm, "٣.0": api.ErrForm,
		// What isn't in form doesn't have too many digits, either.
		"1234567890123456": api.ErrForm, "1234567890123456.": api.ErrForm, "1234567890123456.x": api.ErrForm,
		"123456789012345.6": api.ErrBig, "1.234567890123456": api.ErrBig, "12345678.12345678": api.ErrBig,
		"-1.234567890123456": api.ErrBig, "0000000000000000.0": api.ErrBig, "0.000000000000000": api.ErrBig,
		"99999999999999999999999999.9": api.ErrBig,
	} {
		if x, e := ReadFloat(s); x != 0 || e != want {
			t.Errorf("ReadFloat(%q) = %s, %d, not %d", s, x.Bits(), e, want)
		}
	}
}

func TestBits(t *testing.T) {
	for x, want := range map[Float]string{
		zero: "0000000000000000", minusZero: "8000000000000000", tiny: "0000000000000001", one: "3ff0000000000000",
		Nan: "7ff8000000000000", minusInf: "fff0000000000000", 0x0123456789ABCDEF: "0123456789abcdef",
		// Other NaNs keep theirs.
		0x7FF0000000000001: "7ff0000000000001", math.MaxUint64: "ffffffffffffffff",
	} {
		if got := x.Bits(); got != want {
			t.Errorf("Bits of %x = %q", uint64(x), got)
		}
	}
}
