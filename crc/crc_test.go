package crc

import (
	"bytes"
	"testing"
)

// plain is the sum as the document tells it, bit by bit.
func plain(b []byte) uint32 {
	reg := ^uint32(0)
	for _, c := range b {
		for i := range 8 {
			low := reg&1 ^ uint32(c>>i&1)
			reg >>= 1
			if low == 1 {
				reg ^= 0x82F63B78
			}
		}
	}
	return ^reg
}

// some are n bytes that look like none in particular.
func some(n int) []byte {
	b := make([]byte, n)
	seed := uint32(n) + 7
	for i := range b {
		seed = seed*1664525 + 1013904223
		b[i] = byte(seed >> 24)
	}
	return b
}

func filled(n int, c byte) []byte { return bytes.Repeat([]byte{c}, n) }

func TestSum(t *testing.T) {
	rising := make([]byte, 32)
	for i := range rising {
		rising[i] = byte(i)
	}
	// The last three stand in RFC 3720, B.4.
	for _, x := range []struct {
		b    []byte
		want uint32
	}{
		{nil, 0}, {[]byte{}, 0}, {[]byte("123456789"), 0xE3069283},
		{filled(32, 0), 0x8A9136AA}, {filled(32, 0xFF), 0x62A8AB43}, {rising, 0x46DD794E},
	} {
		if got := Sum(x.b); got != x.want {
			t.Errorf("Sum(%x) = %08X, not %08X", x.b, got, x.want)
		}
	}
	for c := range 256 {
		if b := []byte{byte(c)}; Sum(b) != plain(b) {
			t.Errorf("Sum(%x) = %08X, not %08X", b, Sum(b), plain(b))
		}
	}
	for n := range 300 {
		if b := some(n); Sum(b) != plain(b) {
			t.Errorf("Sum(%x) = %08X, not %08X", b, Sum(b), plain(b))
		}
	}
}

func TestParts(t *testing.T) {
	b := some(20)
	want := plain(b)
	for i := range len(b) + 1 {
		if got := More(Sum(b[:i]), b[i:]); got != want {
			t.Errorf("More at %d: %08X, not %08X", i, got, want)
		}
		for j := i; j <= len(b); j++ {
			if got := Sum(b[:i], b[i:j], nil, b[j:]); got != want {
				t.Errorf("Sum in parts at %d, %d: %08X, not %08X", i, j, got, want)
			}
		}
	}
	if Sum() != 0 || Sum(nil, nil) != 0 || More(0, nil) != 0 || More(want, nil) != want || More(want, []byte{}) != want {
		t.Error("nothing has a sum of its own")
	}
}

func TestClose(t *testing.T) {
	if got := Close([]byte("123456789")); string(got) != "123456789\x83\x92\x06\xE3" {
		t.Errorf("%x", got)
	}
	for _, b := range [][]byte{nil, {}} {
		if got := Close(b); string(got) != "\x00\x00\x00\x00" {
			t.Errorf("Close of nothing: %x", got)
		}
	}
}

func TestOpen(t *testing.T) {
	for n := range 100 {
		b := some(n)
		if got, ok := Open(Close(b)); !ok || !bytes.Equal(got, b) {
			t.Errorf("Open(Close(%x)) = %x, %v", b, got, ok)
		}
	}
}

func TestOpenRefuses(t *testing.T) {
	closed := Close([]byte("abc"))
	for _, b := range [][]byte{
		nil, {}, {0}, {0, 0}, {0, 0, 0}, {1, 0, 0, 0}, {0, 0, 0, 1}, filled(5, 0), filled(4, 0xFF), []byte("abcdefgh"),
		closed[1:], closed[:len(closed)-1], append(bytes.Clone(closed), 0), append([]byte{0}, closed...),
		[]byte("123456789\xE3\x06\x92\x83"),
	} {
		if got, ok := Open(b); ok || len(got) != 0 {
			t.Errorf("Open(%x) = %x, %v", b, got, ok)
		}
	}
}

// flip turns the bits of mask in b, the lowest one at the bit first, in each byte the lowest bit first.
func flip(b []byte, first int, mask uint32) {
	for i := range 32 {
		if mask>>i&1 == 1 {
			b[(first+i)/8] ^= 1 << ((first + i) % 8)
		}
	}
}

func TestBurstsAreNotOpened(t *testing.T) {
	for _, size := range []int{0, 1, 3, 28} {
		b := Close(some(size))
		seed := uint32(1)
		for length := 1; length <= 32; length++ {
			ends := uint32(1) | 1<<(length-1)
			for first := range 8*len(b) - length + 1 {
				seed = seed*1664525 + 1013904223
				within := uint32(1<<length - 1)
				for _, mask := range []uint32{ends, within, ends | seed&within, ends | ^seed&within} {
					flip(b, first, mask)
					if got, ok := Open(b); ok || len(got) != 0 {
						t.Fatalf("%d bytes, burst %08X at %d: opened", size, mask, first)
					}
					flip(b, first, mask)
				}
			}
		}
		if _, ok := Open(b); !ok {
			t.Error("the test changed what it was to give back")
		}
	}
}

func TestNothingIsChangedOrKept(t *testing.T) {
	room := []byte("abcdefghijkl")
	b := room[:3]
	Sum(b, b)
	More(1, b)
	closed := Close(b)
	opened, _ := Open(closed[:len(closed):len(closed)])
	if string(room) != "abcdefghijkl" {
		t.Errorf("what was handed in is %q", room)
	}
	before := string(closed)
	opened = append(opened, "xyz"...)
	opened[0] = 'z'
	if string(closed) != before {
		t.Error("Open answers what was handed in")
	}
	closed[0] = 'z'
	if string(room) != "abcdefghijkl" || string(Close(b)) != before {
		t.Error("Close answers what was handed in, or what it keeps")
	}
	room[0] = 'q'
	if opened[1] != 'b' || string(closed[1:]) != before[1:] {
		t.Error("an answer shares memory with an argument")
	}
}
