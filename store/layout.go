package store

import (
	"bytes"
	"math"
	"slices"

	"scriptor/api"
	"scriptor/crc"
	"scriptor/disk"
	"scriptor/wire"
)

const (
	heads     = 2
	halves    = 2
	firstTurn = 1
	firstAge  = 1
	minLog    = 3
)

// place is a disk, and where on it what stands. When a call of the disk has
// failed nothing is done on it any more, since nobody knows what of it lasts.
type place struct {
	disk *disk.Disk
	log  int // how many sectors the log has
	half int // how many a half has
	err  api.Errno
}

// placeOf: false: there can be no store. What is left of the disk is asked, since log may be too great for a sum.
func placeOf(d *disk.Disk, log int) (place, bool) {
	if d == nil || log < minLog || log > d.Count()-heads-halves {
		return place{}, false
	}
	return place{disk: d, log: log, half: (d.Count() - heads - log) / halves}, true
}

func (p *place) room() int { return p.half * api.Sector }

func (p *place) start(half int) int { return heads + p.log + half*p.half }

func (p *place) write(n int, b []byte) {
	if p.err == api.OK {
		p.err = p.disk.Write(n, b)
	}
}

func (p *place) barrier() {
	if p.err == api.OK {
		p.err = p.disk.Barrier()
	}
}

// read answers noughts behind an error.
func (p *place) read(n int) []byte {
	if p.err == api.OK {
		var b []byte
		if b, p.err = p.disk.Read(n); p.err == api.OK {
			return b
		}
	}
	return make([]byte, api.Sector)
}

// writeHalf writes bytes, and noughts up to the half's end.
func (p *place) writeHalf(half int, b []byte) {
	n := p.start(half)
	for part := range slices.Chunk(padded(b, p.room()), api.Sector) {
		p.write(n, part)
		n++
	}
}

func (p *place) readHalf(half int) []byte {
	b := make([]byte, 0, p.room())
	for n := range p.half {
		b = append(b, p.read(p.start(half)+n)...)
	}
	return b
}

// padded is bytes, and noughts behind them.
func padded(b []byte, size int) []byte {
	p := make([]byte, size)
	copy(p, b)
	return p
}

// head says where the objects are that were laid down last.
type head struct {
	turn  int
	half  int
	size  int // of the image
	sum   int
	least int // age of the log that counts
}

func headOf(turn, half int, image []byte, least int) head {
	return head{turn, half, len(image), int(crc.Sum(image)), least}
}

func (h head) sector() []byte {
	b := []byte{0x53, 0x54}
	for _, n := range []int{h.turn, h.half, h.size, h.sum, h.least} {
		b = append(b, wire.Num(n)...)
	}
	return padded(crc.Close(b), api.Sector)
}

// headIn is the head that a sector is; false: it is none.
func headIn(sector []byte) (head, bool) {
	in := wire.Open(sector[2:])
	h := head{
		turn:  in.Num(firstTurn, math.MaxInt),
		half:  in.Num(0, halves-1),
		size:  in.Num(0, math.MaxInt),
		sum:   in.Num(0, math.MaxUint32),
		least: in.Num(firstAge, math.MaxInt),
	}
	// Made anew it must be the same up to its last nought.
	if in.Err() != api.OK || !bytes.Equal(sector, h.sector()) {
		return head{}, false
	}
	return h, true
}

// findHead is the one that counts, and where it stands; without one its turn is 0.
func (p *place) findHead() (head, int) {
	counts, at := head{}, 0
	for n := range heads {
		if h, ok := headIn(p.read(n)); ok && h.turn > counts.turn {
			counts, at = h, n
		}
	}
	return counts, at
}

// objectsOf is what the image says that a head names; false: there is none.
func (p *place) objectsOf(h head) (*objects, bool) {
	if h.turn == 0 || h.size > p.room() {
		return nil, false
	}
	half := p.readHalf(h.half)
	image := half[:h.size]
	if int(crc.Sum(image)) != h.sum || !bytes.Equal(half, padded(image, len(half))) {
		return nil, false
	}
	return readImage(image)
}
