package asm

// The classes of instructions: an Op's lowest three bits.
const (
	classLd    = 0
	classLdx   = 1
	classSt    = 2
	classStx   = 3
	classAlu   = 4
	classJmp   = 5
	classJmp32 = 6
	classAlu64 = 7
)

// The Ops that stand for one instruction each.
const (
	opGoto = 5
	opCall = 133
	opExit = 149
)

// The parts of an Op beside its class.
const (
	kindPart = 240 // of an ALU or a jump: what it does
	fromSrc  = 8   // of an ALU or a jump: its second number is register Src's, not Imm
	modePart = 224 // of an LDX, ST or STX: how it moves bytes
	sizePart = 24  // of an LDX, ST or STX: how many
)

// The ops of an ALU of which some lines are written in a way of their own.
const (
	kindMinus = 128
	kindMov   = 176
)

// How bytes are moved.
const (
	modePlain = 96
	modeSign  = 128 // with their sign
	modeLock  = 192 // read and written in one go
)

// What Src says of a wide instruction's Imm.
const (
	wideNumber = 0
	wideMap    = 1
)

// regLast is the greatest register.
const regLast = 10

// The letters of a register, and of its lower 32 bits.
const (
	whole = "r"
	lower = "w"
)

// blank stands between two words, lineEnd behind each line.
const (
	blank   = ' '
	lineEnd = "\n"
)

// operator is how an ALU's op is written; off is the Off that goes with it.
type operator struct {
	name      string
	kind, off int
}

var operators = [14]operator{
	{"+=", 0, 0},
	{"-=", 16, 0},
	{"*=", 32, 0},
	{"/=", 48, 0},
	{"s/=", 48, 1},
	{"|=", 64, 0},
	{"&=", 80, 0},
	{"<<=", 96, 0},
	{">>=", 112, 0},
	{"%=", 144, 0},
	{"s%=", 144, 1},
	{"^=", 160, 0},
	{"=", kindMov, 0},
	{"s>>=", 192, 0},
}

// test is how a jump's op is written.
type test struct {
	name string
	kind int
}

var tests = [11]test{
	{"==", 16},
	{">", 32},
	{">=", 48},
	{"&", 64},
	{"!=", 80},
	{"s>", 96},
	{"s>=", 112},
	{"<", 160},
	{"<=", 176},
	{"s<", 192},
	{"s<=", 208},
}

// turn is how an Op that turns bytes round is written, ahead of how many bits it turns.
type turn struct {
	name string
	op   int
}

var turns = [3]turn{{"le", 212}, {"be", 220}, {"bswap", 215}}

// turnBits has the bits that may be turned round.
var turnBits = [3]int{16, 32, 64}

// lock is how the Imm of what is done in one go is written; fetch is whether the Imm may be 1 more.
type lock struct {
	name  string
	imm   int
	fetch bool
}

var locks = [6]lock{
	{"+=", 0, true},
	{"|=", 64, true},
	{"&=", 80, true},
	{"^=", 160, true},
	{"xchg", 225, false},
	{"cmpxchg", 241, false},
}

// move is how the part of an Op is written that says how bytes are moved, and how many.
type move struct {
	name       string
	mode, size int
}

var moves = [7]move{
	{"u32", modePlain, 0},
	{"u16", modePlain, 8},
	{"u8", modePlain, 16},
	{"u64", modePlain, 24},
	{"s32", modeSign, 0},
	{"s16", modeSign, 8},
	{"s8", modeSign, 16},
}

// extends answers whether a mov of this class with this Off takes along the sign of its Off lowest bits.
func extends(class, off int) bool {
	return off == 8 || off == 16 || off == 32 && class == classAlu64
}

// locked answers whether bytes of this size may be moved in one go.
func locked(size int) bool { return size == 0 || size == sizePart }

// letterOf answers the letter of the registers that an ALU or a jump of this class works on.
func letterOf(class int) string {
	if class == classAlu || class == classJmp32 {
		return lower
	}
	return whole
}
