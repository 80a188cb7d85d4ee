package code

import (
	"math"

	"scriptor/api"
	"scriptor/crc"
	"scriptor/wire"
)

// mark is what all code's bytes begin with.
const mark = "\x53\x43"

func write(c Code) []byte {
	b := []byte(mark)
	put := func(l ...int) {
		for _, n := range l {
			b = append(b, wire.Num(n)...)
		}
	}
	put(len(c.Ins))
	for _, in := range c.Ins {
		put(in.Op, in.A, in.B)
	}
	put(len(c.Strs))
	for _, s := range c.Strs {
		b = append(b, wire.Str(s)...)
	}
	put(len(c.Funs))
	put(c.Funs...)
	put(c.Globals)
	return crc.Close(b)
}

// read throws the error of bytes that are none's; what it reads may be not in order.
func read(b []byte) Code {
	body, ok := crc.Open(b)
	if !ok {
		panic(wrong{api.ErrRot})
	}
	need(len(body) >= len(mark) && string(body[:len(mark)]) == mark)
	in := wire.Open(body[len(mark):])
	get := func() int { return in.Num(math.MinInt, math.MaxInt) }
	var c Code
	for range in.Num(0, maxSteps) {
		c.Ins = append(c.Ins, Ins{get(), get(), get()})
	}
	for range in.Num(0, maxTexts) {
		c.Strs = append(c.Strs, in.Str(api.MaxStr))
	}
	for range in.Num(0, maxFuns) {
		c.Funs = append(c.Funs, get())
	}
	c.Globals = get()
	need(in.End() == api.OK)
	return c
}
