package shape

import (
	"portcullis/api"
	"portcullis/insn"
)

// fits answers whether each of i's numbers has room in its field, and both registers are there. A field that i does not name is 0 and so fits.
func fits(i api.Insn) bool {
	return i.Op == int(uint8(i.Op)) &&
		0 <= i.Dst && i.Dst <= regFrame &&
		0 <= i.Src && i.Src <= regFrame &&
		i.Off == int(int16(i.Off)) &&
		i.Imm == int(int32(i.Imm))
}

// wide answers whether an instruction that may be begins with the slot i of class LD.
func wide(i api.Insn) bool {
	if !insn.Wide(i) || i.Off != 0 || i.Dst == regFrame {
		return false
	}
	return i.Src == wideNumber || i.Src == wideMap && i.Imm >= 0
}

// load answers whether the LDX i may be.
func load(i api.Insn) bool {
	if i.Imm != 0 || i.Dst == regFrame {
		return false
	}
	switch i.Op & movePart {
	case movePlain:
		return true
	case moveSign:
		return insn.Size(i) < 8 // eight bytes have no sign to take along
	}
	return false
}

// store answers whether the ST i may be.
func store(i api.Insn) bool { return i.Op&movePart == movePlain && i.Src == 0 }

// storeSrc answers whether the STX i may be.
func storeSrc(i api.Insn) bool {
	switch i.Op & movePart {
	case movePlain:
		return i.Imm == 0
	case moveLock:
		return lock(i)
	}
	return false
}

// lock answers whether the STX i may be, which reads and writes in one go.
func lock(i api.Insn) bool {
	if size := insn.Size(i); size != 4 && size != 8 {
		return false
	}
	switch i.Imm {
	case lockAdd, lockOr, lockAnd, lockXor, lockCmpxchg:
		return true
	case lockAdd | lockFetch, lockOr | lockFetch, lockAnd | lockFetch, lockXor | lockFetch, lockXchg:
		return i.Src != regFrame // what was there goes to Src
	}
	return false
}

// alu answers whether the ALU i, of 32 or 64 bits, may be.
func alu(i api.Insn) bool {
	if i.Dst == regFrame {
		return false
	}
	switch i.Op & kindPart {
	case aluMinus:
		return i == api.Insn{Op: aluMinus | insn.Class(i), Dst: i.Dst}
	case aluTurn:
		return turn(i)
	case aluAdd, aluSub, aluMul, aluDiv, aluOr, aluAnd, aluLeft, aluRight, aluMod, aluXor, aluMov, aluRightSigned:
		return second(i) && aluOff(i) && (i.Op&fromSrc != 0 || aluImm(i))
	}
	return false
}

// turn answers whether the ALU i, of the kind that turns bytes round, may be.
func turn(i api.Insn) bool {
	if i.Op != opLittle && i.Op != opBig && i.Op != opSwap {
		return false
	}
	return i.Src == 0 && i.Off == 0 && (i.Imm == 16 || i.Imm == 32 || i.Imm == 64)
}

// second answers whether of Src and Imm that one is 0 which an ALU or a jump of two numbers does not work on.
func second(i api.Insn) bool {
	if i.Op&fromSrc != 0 {
		return i.Imm == 0
	}
	return i.Src == 0
}

// aluOff answers whether an ALU of i's kind may have i's Off.
func aluOff(i api.Insn) bool {
	switch i.Op & kindPart {
	case aluDiv, aluMod:
		return i.Off == 0 || i.Off == 1 // 1: of signed numbers
	case aluMov:
		return i.Off == 0 || i.Op&fromSrc != 0 && extends(i)
	}
	return i.Off == 0
}

// extends answers whether i's Off is how many of the lowest bits a mov of i's class may take along with their sign.
func extends(i api.Insn) bool {
	return i.Off == 8 || i.Off == 16 || i.Off == 32 && insn.Class(i) == classAlu64
}

// aluImm answers whether an ALU of i's kind may work on i's Imm.
func aluImm(i api.Insn) bool {
	switch i.Op & kindPart {
	case aluDiv, aluMod:
		return i.Imm != 0
	case aluLeft, aluRight, aluRightSigned:
		return 0 <= i.Imm && i.Imm < bits(i)
	}
	return true
}

// bits answers how many bits the ALU i works on.
func bits(i api.Insn) int {
	if insn.Class(i) == classAlu64 {
		return 64
	}
	return 32
}

// jump answers whether the JMP or JMP32 i may be, wherever it goes.
func jump(i api.Insn) bool {
	switch i.Op {
	case opGoto:
		return i == api.Insn{Op: opGoto, Off: i.Off}
	case opCall:
		return i == api.Insn{Op: opCall, Imm: i.Imm}
	case opExit:
		return i == api.Insn{Op: opExit}
	}
	switch i.Op & kindPart {
	case jumpEqual, jumpAbove, jumpAboveEqual, jumpBits, jumpOther, jumpAboveSigned, jumpAboveEqualSigned, jumpBelow, jumpBelowEqual, jumpBelowSigned, jumpBelowEqualSigned:
		return second(i)
	}
	return false
}
