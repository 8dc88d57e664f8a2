package alu

// The ops of Bin.
const (
	opAdd  = 0
	opSub  = 16
	opMul  = 32
	opDiv  = 48
	opOr   = 64
	opAnd  = 80
	opShl  = 96
	opShr  = 112
	opNeg  = 128
	opRest = 144
	opXor  = 160
	opMov  = 176
	opSar  = 192
)

// The ops of Test.
const (
	testEqual         = 16
	testAbove         = 32
	testAtLeast       = 48
	testShare         = 64
	testNotEqual      = 80
	testSignedAbove   = 96
	testSignedAtLeast = 112
	testBelow         = 160
	testAtMost        = 176
	testSignedBelow   = 192
	testSignedAtMost  = 208
)

// What is answered at an edge.
const (
	isPlain = 0 // what the operation makes of a and b
	isZero  = 1
	isFirst = 2 // a
)

// edge is what an operation does where plain arithmetic would have no answer, or one that hangs on the machine.
type edge struct {
	op       int
	signed   bool   // it may be of signed numbers
	part64   uint64 // the bits of b that play a part, of 64 bits
	part32   uint64 // likewise, of 32 bits
	byZero   int    // what is answered where b is 0
	overflow int    // what is answered where the least signed number meets -1
}

// edges has the row of each op at a sixteenth of it.
var edges = [13]edge{
	{opAdd, false, all, low, isPlain, isPlain},
	{opSub, false, all, low, isPlain, isPlain},
	{opMul, false, all, low, isPlain, isPlain},
	{opDiv, true, all, low, isZero, isFirst},
	{opOr, false, all, low, isPlain, isPlain},
	{opAnd, false, all, low, isPlain, isPlain},
	{opShl, false, 63, 31, isPlain, isPlain},
	{opShr, false, 63, 31, isPlain, isPlain},
	{opNeg, false, all, low, isPlain, isPlain},
	{opRest, true, all, low, isFirst, isZero},
	{opXor, false, all, low, isPlain, isPlain},
	{opMov, false, all, low, isPlain, isPlain},
	{opSar, false, 63, 31, isPlain, isPlain},
}

// part is the bits of b that play a part.
func (e edge) part(wide bool) uint64 {
	if wide {
		return e.part64
	}
	return e.part32
}

// meet is what is answered of a and b, of which only the bits that play a part are left.
func (e edge) meet(wide, signed bool, a, b uint64) int {
	if b == 0 {
		return e.byZero
	}
	least := mask(wide)>>1 + 1
	if signed && a == least && b == mask(wide) {
		return e.overflow
	}
	return isPlain
}

// plain is what op makes of a and b away from the edges; its upper half may be any where it is of 32 bits.
func plain(op int, wide, signed bool, a, b uint64) uint64 {
	switch op {
	case opAdd:
		return a + b
	case opSub:
		return a - b
	case opMul:
		return a * b
	case opDiv:
		return quotient(wide, signed, a, b)
	case opOr:
		return a | b
	case opAnd:
		return a & b
	case opShl:
		return a << b
	case opShr:
		return a >> b
	case opNeg:
		return -a
	case opRest:
		return rest(wide, signed, a, b)
	case opXor:
		return a ^ b
	case opMov:
		return b
	}
	return uint64(withSign(wide, a) >> b)
}

// quotient is a divided by b, which is not 0.
func quotient(wide, signed bool, a, b uint64) uint64 {
	if signed {
		return uint64(withSign(wide, a) / withSign(wide, b))
	}
	return a / b
}

// rest is what a divided by b leaves; b is not 0.
func rest(wide, signed bool, a, b uint64) uint64 {
	if signed {
		return uint64(withSign(wide, a) % withSign(wide, b))
	}
	return a % b
}
