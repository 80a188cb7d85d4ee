package store

import (
	"maps"
	"slices"

	"scriptor/api"
	"scriptor/val"
	"scriptor/wire"
)

const (
	firstNext = 1
	maxNumber = 1 << 40
	maxNext   = 1 << 41
)

// In a record 1 and a value stand behind an object's number, or 0: it is gone.
const (
	isGone   = 0
	hasValue = 1
)

// value is an object's value, as val.Encode has it: nobody can change these bytes.
type value struct {
	bytes string
}

// edit is a change, its value as bytes.
type edit struct {
	number int
	gone   bool
	value  value
}

// objects are all that there are.
type objects struct {
	next   int
	values map[int]value
	bytes  int // how many an image has behind the count of objects
}

func noObjects() *objects {
	return &objects{next: firstNext, values: map[int]value{}}
}

func (o *objects) numbers() []int { return slices.Sorted(maps.Keys(o.values)) }

// nextBehind is a number above all that ever were, those of edits, too.
func (o *objects) nextBehind(l []edit) int {
	next := o.next
	for _, e := range l {
		next = max(next, e.number+1)
	}
	return next
}

func (o *objects) remove(number int) {
	if v, there := o.values[number]; there {
		o.bytes -= len(entry(number, v))
		delete(o.values, number)
	}
}

func (o *objects) put(number int, v value) {
	o.remove(number)
	o.bytes += len(entry(number, v))
	o.values[number] = v
}

func (o *objects) edit(l []edit) {
	o.next = o.nextBehind(l)
	for _, e := range l {
		if e.gone {
			o.remove(e.number)
		} else {
			o.put(e.number, e.value)
		}
	}
}

// entry is an object in an image.
func entry(number int, v value) []byte {
	return append(wire.Num(number), wire.Str(v.bytes)...)
}

// start is what an image begins with.
func start(next, count int) []byte {
	return append(wire.Num(next), wire.Num(count)...)
}

// size is how many bytes the image has; sizeBehind: how many it would have behind edits.
func (o *objects) size() int { return len(start(o.next, len(o.values))) + o.bytes }

func (o *objects) sizeBehind(l []edit) int {
	last := map[int]edit{}
	for _, e := range l {
		last[e.number] = e
	}
	count, size := len(o.values), o.bytes
	for number, e := range last {
		if v, there := o.values[number]; there {
			count--
			size -= len(entry(number, v))
		}
		if !e.gone {
			count++
			size += len(entry(number, e.value))
		}
	}
	return len(start(o.nextBehind(l), count)) + size
}

func (o *objects) image() []byte {
	b := start(o.next, len(o.values))
	for _, number := range o.numbers() {
		b = append(b, entry(number, o.values[number])...)
	}
	return b
}

// readImage is the objects whose image b is; false: it is none.
func readImage(b []byte) (*objects, bool) {
	in := wire.Open(b)
	o := noObjects()
	o.next = in.Num(firstNext, maxNext)
	last := 0
	for left := in.Num(0, len(b)); left > 0 && in.Err() == api.OK; left-- {
		last = in.Num(last+1, maxNumber)
		o.put(last, readValue(in))
	}
	return o, in.End() == api.OK && last < o.next
}

func readValue(in *wire.In) value {
	v := value{in.Str(api.MaxValue)}
	if _, err := val.Decode([]byte(v.bytes)); err != api.OK {
		in.Fail(err)
	}
	return v
}

// record is edits, as they stand in the log.
func record(next int, l []edit) []byte {
	b := start(next, len(l))
	for _, e := range l {
		b = append(b, wire.Num(e.number)...)
		if e.gone {
			b = append(b, wire.Num(isGone)...)
			continue
		}
		b = append(b, wire.Num(hasValue)...)
		b = append(b, wire.Str(e.value.bytes)...)
	}
	return b
}

// readRecord is the edits that b says, and the next number behind them; false: it is no record.
func readRecord(b []byte) (int, []edit, bool) {
	in := wire.Open(b)
	next := in.Num(firstNext, maxNext)
	var l []edit
	for left := in.Num(0, len(b)); left > 0 && in.Err() == api.OK; left-- {
		e := edit{number: in.Num(1, maxNumber)}
		if e.gone = in.Num(isGone, hasValue) == isGone; !e.gone {
			e.value = readValue(in)
		}
		l = append(l, e)
	}
	return next, l, in.End() == api.OK
}
