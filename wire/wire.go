// Package wire is layer 3: numbers and texts as bytes: see shared/doc/03-wire.md.
package wire

import (
	"slices"

	"scriptor/api"
)

// lastByte is where the tenth byte of a number stands: of 64 bits there is one left for it.
const lastByte = 9

// Num, Str: a number's bytes; a text's.
func Num(n int) []byte {
	u := fold(n)
	var b []byte
	for u >= 128 {
		b = append(b, byte(u)|128)
		u >>= 7
	}
	return append(b, byte(u))
}

func Str(s string) []byte {
	return append(Num(len(s)), s...)
}

// fold: 2n, or -2n - 1 of n below 0; unfold: back again.
func fold(n int) uint64 { return uint64(n)<<1 ^ uint64(n>>63) }

func unfold(u uint64) int { return int(u>>1) ^ -int(u&1) }

// In is bytes that are read from the front on.
type In struct {
	rest []byte
	err  api.Errno
}

// Open: bytes.
func Open(b []byte) *In {
	return &In{rest: slices.Clone(b)}
}

// Num, Str: the next number, between two; the next text, of so many bytes at most.
func (i *In) Num(least, most int) int {
	if i.Err() != api.OK {
		return 0
	}
	n, size, err := number(i.rest)
	if err == api.OK && (n < least || n > most) {
		err = api.ErrBig
	}
	if err != api.OK {
		i.err = err
		return 0
	}
	i.rest = i.rest[size:]
	return n
}

func (i *In) Str(most int) string {
	size := i.Num(0, most)
	if i.Err() != api.OK {
		return ""
	}
	if size > len(i.rest) {
		i.err = api.ErrTail
		return ""
	}
	s := string(i.rest[:size])
	i.rest = i.rest[size:]
	return s
}

// number is the one that b begins with, and how many bytes it has.
func number(b []byte) (int, int, api.Errno) {
	u := uint64(0)
	for k, c := range b {
		if k == lastByte && c > 1 {
			return 0, 0, api.ErrForm
		}
		u |= uint64(c&127) << (7 * k)
		if c >= 128 {
			continue
		}
		if c == 0 && k > 0 {
			return 0, 0, api.ErrForm
		}
		return unfold(u), k + 1, api.OK
	}
	return 0, 0, api.ErrTail
}

// Left: how many bytes are left; Err: the first error; Fail: there is one now.
func (i *In) Left() int {
	if i == nil {
		return 0
	}
	return len(i.rest)
}

func (i *In) Err() api.Errno {
	if i == nil {
		return api.ErrArg
	}
	return i.err
}

func (i *In) Fail(e api.Errno) {
	if i.Err() == api.OK {
		i.err = e
	}
}

// End: is it all?
func (i *In) End() api.Errno {
	if i.Left() > 0 {
		i.Fail(api.ErrForm)
	}
	return i.Err()
}
