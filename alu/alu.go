// Package alu is layer 1: arithmetic and conditions of 32 and 64 bits. See shared/doc/01-alu.md.
package alu

import "portcullis/api"

// low is the lower half of a number, all both halves.
const (
	low = 1<<32 - 1
	all = 1<<64 - 1
)

// Bin answers a and b put together by op, of 64 bits (wide) or of their lower 32.
func Bin(op int, wide, signed bool, a, b uint64) (uint64, api.Errno) {
	if op < opAdd || op > opSar {
		return 0, api.ErrArg
	}
	e := edges[op>>4]
	if e.op != op || signed && !e.signed {
		return 0, api.ErrArg
	}
	a, b = a&mask(wide), b&e.part(wide)
	switch e.meet(wide, signed, a, b) {
	case isZero:
		return 0, api.OK
	case isFirst:
		return a, api.OK
	}
	return plain(op, wide, signed, a, b) & mask(wide), api.OK
}

// Extend answers the signed number of a's lowest bits, of 64 bits (wide) or cut to 32.
func Extend(a uint64, bits int, wide bool) (uint64, api.Errno) {
	switch {
	case bits == 8:
		return uint64(int8(a)) & mask(wide), api.OK
	case bits == 16:
		return uint64(int16(a)) & mask(wide), api.OK
	case bits == 32 && wide:
		return uint64(int32(a)), api.OK
	}
	return 0, api.ErrArg
}

// Swap answers a's lowest bits with their bytes the other way round.
func Swap(a uint64, bits int) (uint64, api.Errno) {
	left, err := Cut(a, bits)
	if err != api.OK {
		return 0, err
	}
	n := uint64(0)
	for range bits / 8 {
		n = n<<8 | left&255
		left >>= 8
	}
	return n, api.OK
}

// Cut answers a's lowest bits.
func Cut(a uint64, bits int) (uint64, api.Errno) {
	switch bits {
	case 16:
		return uint64(uint16(a)), api.OK
	case 32:
		return uint64(uint32(a)), api.OK
	case 64:
		return a, api.OK
	}
	return 0, api.ErrArg
}

// Test answers whether op holds of a and b, of 64 bits (wide) or of their lower 32.
func Test(op int, wide bool, a, b uint64) (bool, api.Errno) {
	a, b = a&mask(wide), b&mask(wide)
	x, y := withSign(wide, a), withSign(wide, b)
	switch op {
	case testEqual:
		return a == b, api.OK
	case testAbove:
		return a > b, api.OK
	case testAtLeast:
		return a >= b, api.OK
	case testShare:
		return a&b != 0, api.OK
	case testNotEqual:
		return a != b, api.OK
	case testSignedAbove:
		return x > y, api.OK
	case testSignedAtLeast:
		return x >= y, api.OK
	case testBelow:
		return a < b, api.OK
	case testAtMost:
		return a <= b, api.OK
	case testSignedBelow:
		return x < y, api.OK
	case testSignedAtMost:
		return x <= y, api.OK
	}
	return false, api.ErrArg
}

// mask is the bits that play a part.
func mask(wide bool) uint64 {
	if wide {
		return all
	}
	return low
}

// withSign is the signed number of n's 64 bits, or of its lower 32.
func withSign(wide bool, n uint64) int64 {
	if wide {
		return int64(n)
	}
	return int64(int32(n))
}
