package shape

// The classes of instructions: an Op's lowest three bits.
const (
	classLd = iota
	classLdx
	classSt
	classStx
	classAlu
	classJmp
	classJmp32
	classAlu64
)

// The kinds of an ALU: the upper four bits of its Op.
const (
	aluAdd = iota << 4
	aluSub
	aluMul
	aluDiv
	aluOr
	aluAnd
	aluLeft
	aluRight
	aluMinus
	aluMod
	aluXor
	aluMov
	aluRightSigned
	aluTurn // turns bytes round
)

// The kinds of a jump: the upper four bits of its Op.
const (
	jumpGoto = iota << 4
	jumpEqual
	jumpAbove
	jumpAboveEqual
	jumpBits
	jumpOther
	jumpAboveSigned
	jumpAboveEqualSigned
	jumpCall
	jumpExit
	jumpBelow
	jumpBelowEqual
	jumpBelowSigned
	jumpBelowEqualSigned
)

// How an LDX, an ST or an STX moves bytes: the upper three bits of its Op.
const (
	movePlain = 96
	moveSign  = 128 // with their sign
	moveLock  = 192 // read and written in one go
)

// The parts of an Op beside its class.
const (
	kindPart = 240 // of an ALU or a jump: its kind
	fromSrc  = 8   // of an ALU or a jump: its second number is register Src's, not Imm
	movePart = 224 // of an LDX, an ST or an STX: how it moves bytes
)

// The Ops that stand for one instruction each.
const (
	opGoto = jumpGoto | classJmp
	opCall = jumpCall | classJmp
	opExit = jumpExit | classJmp
)

// The Ops of an ALU that turn bytes round: into the little end first, into the big end first, and from either into the other.
const (
	opLittle = aluTurn | classAlu
	opBig    = aluTurn | fromSrc | classAlu
	opSwap   = aluTurn | classAlu64
)

// What is done in one go: an STX's Imm. Those of the first four may have lockFetch beside them.
const (
	lockAdd     = aluAdd
	lockOr      = aluOr
	lockAnd     = aluAnd
	lockXor     = aluXor
	lockFetch   = 1
	lockXchg    = 225
	lockCmpxchg = 241
)

// What Src says of a wide instruction's Imm.
const (
	wideNumber = iota
	wideMap
)

// regFrame is the greatest register: nothing may write it.
const regFrame = 10
