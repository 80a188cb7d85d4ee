// Package num is layer 1: the language's numbers: see shared/doc/01-num.md.
package num

import (
	"math"
	"strconv"
	"strings"

	"scriptor/api"
)

// The least and the greatest integer.
const (
	Least = -1 << 62
	Most  = 1<<62 - 1
)

// Wrap: a whole number as an integer.
func Wrap(n int) int {
	// The shifts put the sign of 63 bits in the place of the 64th.
	return n << 1 >> 1
}

// Add, Sub, Mul, Div, Rem: what integers make.
func Add(a, b int) int { return Wrap(a + b) }

func Sub(a, b int) int { return Wrap(a - b) }

func Mul(a, b int) int { return Wrap(a * b) }

func Div(a, b int) (int, api.Errno) {
	a, b = Wrap(a), Wrap(b)
	if b == 0 {
		return 0, api.ErrArg
	}
	return Wrap(a / b), api.OK
}

func Rem(a, b int) (int, api.Errno) {
	a, b = Wrap(a), Wrap(b)
	if b == 0 {
		return 0, api.ErrArg
	}
	return a % b, api.OK
}

// Read, Text: an integer's digits.
func Read(s string) (int, api.Errno) {
	digits, minus := strings.CutPrefix(s, "-")
	if !areDigits(digits) {
		return 0, api.ErrForm
	}
	most := Most
	if minus {
		most = -Least
	}
	n := 0
	for i := range len(digits) {
		d := int(digits[i] - '0')
		// Asked ahead of the step: ten times n may be beyond 64 bits.
		if n > (most-d)/10 {
			return 0, api.ErrBig
		}
		n = 10*n + d
	}
	if minus {
		n = -n
	}
	return n, api.OK
}

func Text(n int) string { return strconv.Itoa(Wrap(n)) }

func areDigits(s string) bool {
	for i := range len(s) {
		if s[i] < '0' || s[i] > '9' {
			return false
		}
	}
	return s != ""
}

// Float is a float, as its bits.
type Float uint64

// Nan is the one that is none.
const Nan Float = 0x7FF8000000000000

const (
	signBit  Float = 1 << 63
	infinity Float = 0x7FF0000000000000
	// With so many digits a number and its power of ten are floats without
	// rounding, so that one division rounds but once.
	maxDigits = 15
)

func (x Float) isNan() bool { return x&^signBit > infinity }

// Of: a float of the machine.
func Of(f float64) Float {
	x := Float(math.Float64bits(f))
	if x.isNan() {
		return Nan
	}
	return x
}

// Go: as the machine has it.
func (x Float) Go() float64 { return math.Float64frombits(uint64(x)) }

// Plus, Minus, Times, Over, Root, Neg: what floats make.
func (x Float) Plus(y Float) Float { return Of(x.Go() + y.Go()) }

func (x Float) Minus(y Float) Float { return Of(x.Go() - y.Go()) }

func (x Float) Times(y Float) Float { return Of(x.Go() * y.Go()) }

func (x Float) Over(y Float) Float { return Of(x.Go() / y.Go()) }

func (x Float) Root() Float { return Of(math.Sqrt(x.Go())) }

func (x Float) Neg() Float {
	if x.isNan() {
		return Nan
	}
	return x ^ signBit
}

// Less, Same: as numbers are; Ahead: an order of all.
func (x Float) Less(y Float) bool { return x.Go() < y.Go() }

func (x Float) Same(y Float) bool { return x.Go() == y.Go() }

func (x Float) Ahead(y Float) bool { return x.rank() < y.rank() }

// rank is a number without a sign that grows in the order of Ahead.
func (x Float) rank() uint64 {
	switch {
	case x.isNan():
		return 0
	case x&signBit != 0:
		// Below 0 the bits grow as the numbers fall.
		return uint64(^x)
	}
	return uint64(x | signBit)
}

// Whole: the integer of a float, without what is behind the point; Float of an integer.
func (x Float) Whole() (int, api.Errno) {
	f := x.Go()
	// Most is no float: what is below the next one, -Least, is at most Most.
	if f >= Least && f < -Least {
		return int(f), api.OK
	}
	return 0, api.ErrArg
}

func OfInt(n int) Float { return Of(float64(Wrap(n))) }

// ReadFloat: of digits with a point; Bits: sixteen digits of its bits.
func ReadFloat(s string) (Float, api.Errno) {
	digits, minus := strings.CutPrefix(s, "-")
	whole, part, _ := strings.Cut(digits, ".")
	if !areDigits(whole) || !areDigits(part) {
		return 0, api.ErrForm
	}
	if len(whole)+len(part) > maxDigits {
		return 0, api.ErrBig
	}
	n, _ := Read(whole + part)
	x := OfInt(n).Over(OfInt(powerOfTen(len(part))))
	if minus {
		x = x.Neg()
	}
	return x, api.OK
}

func powerOfTen(n int) int {
	p := 1
	for range n {
		p *= 10
	}
	return p
}

func (x Float) Bits() string {
	digits := strconv.FormatUint(uint64(x), 16)
	return strings.Repeat("0", 16-len(digits)) + digits
}
