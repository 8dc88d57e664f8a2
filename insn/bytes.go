package insn

import (
	"math"

	"portcullis/api"
)

// slotBytes is how many bytes a slot has.
const slotBytes = 8

// The greatest numbers that fit a slot's fields without a sign.
const (
	mostOp  = 255
	mostReg = 15
)

// Encode answers the bytes of slots.
func Encode(l []api.Insn) (string, api.Errno) {
	out := make([]byte, 0, slotBytes*len(l))
	for _, i := range l {
		if !fits(i) {
			return "", api.ErrInsn
		}
		b := bytesOf(i)
		out = append(out, b[:]...)
	}
	return string(out), api.OK
}

// Decode answers the slots of bytes.
func Decode(s string) ([]api.Insn, api.Errno) {
	if len(s)%slotBytes != 0 {
		return nil, api.ErrInsn
	}
	l := make([]api.Insn, 0, len(s)/slotBytes)
	for at := 0; at < len(s); at += slotBytes {
		l = append(l, slotOf(s[at:at+slotBytes]))
	}
	return l, api.OK
}

// fits answers whether each of i's numbers has room in its field.
func fits(i api.Insn) bool {
	return within(i.Op, 0, mostOp) &&
		within(i.Dst, 0, mostReg) &&
		within(i.Src, 0, mostReg) &&
		within(i.Off, math.MinInt16, math.MaxInt16) &&
		within(i.Imm, math.MinInt32, math.MaxInt32)
}

// within answers whether n is from least to most.
func within(n, least, most int) bool { return least <= n && n <= most }

// bytesOf answers the bytes of a slot that fits.
func bytesOf(i api.Insn) [slotBytes]byte {
	return [slotBytes]byte{
		byte(i.Op),
		byte(i.Src<<4 | i.Dst),
		byte(i.Off), byte(i.Off >> 8),
		byte(i.Imm), byte(i.Imm >> 8), byte(i.Imm >> 16), byte(i.Imm >> 24),
	}
}

// slotOf is bytesOf the other way round.
func slotOf(s string) api.Insn {
	off := int16(s[2]) | int16(s[3])<<8
	imm := int32(s[4]) | int32(s[5])<<8 | int32(s[6])<<16 | int32(s[7])<<24
	return api.Insn{Op: int(s[0]), Dst: int(s[1] & mostReg), Src: int(s[1] >> 4), Off: int(off), Imm: int(imm)}
}
