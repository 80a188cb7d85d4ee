// Package crc is layer 2: sums that tell changed bytes: see shared/doc/02-crc.md.
package crc

// sumSize is how many bytes a sum has behind what Close made.
const sumSize = 4

// quarter is what four steps of the register make of its lowest four bits:
// two of them are a byte, and the table stays short.
var quarter = [16]uint32{
	0x00000000, 0x105EC76F, 0x20BD8EDE, 0x30E349B1,
	0x417B1DBC, 0x5125DAD3, 0x61C69362, 0x7198540D,
	0x82F63B78, 0x92A8FC17, 0xA24BB5A6, 0xB21572C9,
	0xC38D26C4, 0xD3D3E1AB, 0xE330A81A, 0xF36E6F75,
}

// Sum: of parts, one behind the other.
func Sum(parts ...[]byte) uint32 {
	sum := uint32(0)
	for _, b := range parts {
		sum = More(sum, b)
	}
	return sum
}

// More: the sum of bytes, and others behind them.
func More(sum uint32, b []byte) uint32 {
	reg := ^sum
	for _, c := range b {
		reg ^= uint32(c)
		reg = reg>>4 ^ quarter[reg&15]
		reg = reg>>4 ^ quarter[reg&15]
	}
	return ^reg
}

// Close: bytes, and their sum behind them.
func Close(b []byte) []byte {
	sum := Sum(b)
	closed := make([]byte, 0, len(b)+sumSize)
	closed = append(closed, b...)
	return append(closed, byte(sum), byte(sum>>8), byte(sum>>16), byte(sum>>24))
}

// Open: the bytes ahead of their sum; false: it isn't theirs.
func Open(b []byte) ([]byte, bool) {
	size := len(b) - sumSize
	if size < 0 {
		return nil, false
	}
	s := b[size:]
	sum := uint32(s[0]) | uint32(s[1])<<8 | uint32(s[2])<<16 | uint32(s[3])<<24
	if sum != Sum(b[:size]) {
		return nil, false
	}
	return append([]byte(nil), b[:size]...), true
}
