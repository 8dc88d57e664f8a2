package alu_test

import (
	"math"
	"math/big"
	"testing"

	"portcullis/alu"
	"portcullis/api"
)

const (
	minus   = 1 << 64 // minus less n is the two's complement of -n
	minus32 = 1 << 32
	upper   = 0xABCDEF12 << 32 // an upper half that plays no part in 32 bits
	least   = 1 << 63
	least32 = 1 << 31
)

var binOps = []int{0, 16, 32, 48, 64, 80, 96, 112, 128, 144, 160, 176, 192}

type binCase struct {
	op           int
	wide, signed bool
	a, b, want   uint64
}

func checkBin(t *testing.T, cases []binCase) {
	t.Helper()
	for _, c := range cases {
		if n, e := alu.Bin(c.op, c.wide, c.signed, c.a, c.b); n != c.want || e != api.OK {
			t.Errorf("Bin(%d, wide %v, signed %v, %#x, %#x): %#x, error %d; want %#x", c.op, c.wide, c.signed, c.a, c.b, n, e, c.want)
		}
	}
}

// 1.1: each op, of 64 bits.
func TestBinWide(t *testing.T) {
	checkBin(t, []binCase{
		{0, true, false, 3, 4, 7},
		{0, true, false, minus - 1, 2, 1},
		{0, true, false, minus32 - 1, 1, minus32},
		{16, true, false, 9, 4, 5},
		{16, true, false, 0, 1, minus - 1},
		{32, true, false, 6, 7, 42},
		{32, true, false, minus32 + 1, minus32 + 1, 1<<33 + 1},
		{48, true, false, 43, 6, 7},
		{48, true, false, minus - 1, 2, least - 1},
		{48, true, false, 1 << 40, 1 << 8, 1 << 32},
		{64, true, false, 1<<40 | 12, 10, 1<<40 | 14},
		{80, true, false, 1<<40 | 12, 1<<40 | 10, 1<<40 | 8},
		{96, true, false, 5, 33, 5 << 33},
		{112, true, false, least, 60, 8},
		{128, true, false, 5, 77, minus - 5},
		{128, true, false, 0, 77, 0},
		{128, true, false, least, 0, least},
		{144, true, false, 43, 6, 1},
		{144, true, false, minus - 1, 10, 5},
		{160, true, false, 1<<40 | 12, 1<<41 | 10, 3<<40 | 6},
		{176, true, false, 1, 1<<40 + 5, 1<<40 + 5},
		{192, true, false, minus - 8, 1, minus - 4},
		{192, true, false, least, 63, minus - 1},
		{192, true, false, least - 1, 62, 1},
	})
}

// 1.1: each op, of 32 bits, with upper halves that would say otherwise.
func TestBinNarrow(t *testing.T) {
	checkBin(t, []binCase{
		{0, false, false, upper + 3, upper + 4, 7},
		{0, false, false, minus32 - 1, 1, 0},
		{16, false, false, upper + 9, 4, 5},
		{16, false, false, 0, 1, minus32 - 1},
		{32, false, false, upper + 6, upper + 7, 42},
		{32, false, false, 1 << 31, 2, 0},
		{48, false, false, upper + 43, upper + 6, 7},
		{48, false, false, minus32 - 1, 2, least32 - 1},
		{64, false, false, upper + 12, 10, 14},
		{80, false, false, upper + 12, upper + 10, 8},
		{96, false, false, upper + 5, 30, 1 << 30},
		{112, false, false, upper + least32, 28, 8},
		{128, false, false, upper + 5, 77, minus32 - 5},
		{128, false, false, upper, 77, 0},
		{128, false, false, least32, 0, least32},
		{144, false, false, upper + 43, upper + 6, 1},
		{144, false, false, minus32 - 1, 10, 5},
		{160, false, false, upper + 12, 10, 6},
		{176, false, false, 1, upper + 5, 5},
		{192, false, false, minus32 - 8, 1, minus32 - 4},
		{192, false, false, least32, 31, minus32 - 1},
		{192, false, false, upper + least32 - 1, 30, 1},
	})
}

// 1.1: divided and rest of signed numbers go towards 0, the rest with a's sign.
func TestBinSigned(t *testing.T) {
	checkBin(t, []binCase{
		{48, true, true, 7, 2, 3},
		{48, true, true, minus - 7, 2, minus - 3},
		{48, true, true, 7, minus - 2, minus - 3},
		{48, true, true, minus - 7, minus - 2, 3},
		{144, true, true, 7, 2, 1},
		{144, true, true, minus - 7, 2, minus - 1},
		{144, true, true, 7, minus - 2, 1},
		{144, true, true, minus - 7, minus - 2, minus - 1},
		{48, false, true, upper + 7, 2, 3},
		{48, false, true, minus32 - 7, 2, minus32 - 3},
		{48, false, true, 7, minus32 - 2, minus32 - 3},
		{48, false, true, upper + minus32 - 7, minus32 - 2, 3},
		{144, false, true, 7, upper + 2, 1},
		{144, false, true, minus32 - 7, 2, minus32 - 1},
		{144, false, true, 7, minus32 - 2, 1},
		{144, false, true, minus32 - 7, upper + minus32 - 2, minus32 - 1},
		{48, true, true, minus32 - 7, 2, least32 - 4},
		{48, true, true, least, 2, minus - 1<<62},
		{48, true, true, 5, minus - 1, minus - 5},
		{144, true, true, 5, minus - 1, 0},
	})
}

// 1.1: a shift goes by the lowest 6 bits of b, of 32 bits by the lowest 5.
func TestBinShifts(t *testing.T) {
	const a = 0x8000000180000001
	for _, op := range []int{96, 112, 192} {
		checkBin(t, []binCase{
			{op, true, false, a, 0, a},
			{op, true, false, a, 64, a},
			{op, true, false, a, 1 << 63, a},
			{op, true, false, a, minus - 64, a},
			{op, false, false, a, 0, 0x80000001},
			{op, false, false, a, 32, 0x80000001},
			{op, false, false, a, 64, 0x80000001},
			{op, false, false, a, minus - 32, 0x80000001},
		})
	}
	checkBin(t, []binCase{
		{96, true, false, a, 1, 0x0000000300000002},
		{96, true, false, a, 32, 0x8000000100000000},
		{96, true, false, a, 63, least},
		{96, true, false, a, 65, 0x0000000300000002},
		{96, false, false, a, 1, 2},
		{96, false, false, a, 31, least32},
		{96, false, false, a, 33, 2},
		{112, true, false, a, 1, 0x40000000C0000000},
		{112, true, false, a, 32, 0x80000001},
		{112, true, false, a, 63, 1},
		{112, true, false, a, 65, 0x40000000C0000000},
		{112, false, false, a, 1, 0x40000000},
		{112, false, false, a, 31, 1},
		{112, false, false, a, 33, 0x40000000},
		{192, true, false, a, 1, 0xC0000000C0000000},
		{192, true, false, a, 32, 0xFFFFFFFF80000001},
		{192, true, false, a, 63, minus - 1},
		{192, true, false, a, 65, 0xC0000000C0000000},
		{192, false, false, a, 1, 0xC0000000},
		{192, false, false, a, 31, minus32 - 1},
		{192, false, false, a, 33, 0xC0000000},
		{192, false, false, 0x8000000100000001, 1, 0},
	})
}

// 1.1: divided by 0 is 0, the rest by 0 is a.
func TestBinByZero(t *testing.T) {
	for _, signed := range []bool{false, true} {
		for _, a := range []uint64{0, 7, minus - 7, least, upper + 5, upper + least32} {
			checkBin(t, []binCase{
				{48, true, signed, a, 0, 0},
				{144, true, signed, a, 0, a},
				{48, false, signed, a, 0, 0},
				{48, false, signed, a, upper, 0},
				{144, false, signed, a, 0, a & (minus32 - 1)},
				{144, false, signed, a, upper, a & (minus32 - 1)},
			})
		}
	}
}

// 1.1: the least signed number divided by -1 is itself, the rest 0; not signed they are numbers like others.
func TestBinLeastByMinusOne(t *testing.T) {
	checkBin(t, []binCase{
		{48, true, true, least, minus - 1, least},
		{144, true, true, least, minus - 1, 0},
		{48, false, true, least32, minus32 - 1, least32},
		{144, false, true, least32, minus32 - 1, 0},
		{48, false, true, upper + least32, minus - 1, least32},
		{144, false, true, upper + least32, minus - 1, 0},
		{48, true, false, least, minus - 1, 0},
		{144, true, false, least, minus - 1, least},
		{48, false, false, least32, minus32 - 1, 0},
		{144, false, false, least32, minus32 - 1, least32},
		{48, true, true, minus - least32, minus - 1, least32},
		{48, true, true, least + 1, minus - 1, least - 1},
		{48, false, true, least32 + 1, minus32 - 1, least32 - 1},
	})
}

func refused(t *testing.T, op int, wide, signed bool) {
	t.Helper()
	for _, b := range []uint64{0, 3, minus - 1} {
		if n, e := alu.Bin(op, wide, signed, least, b); n != 0 || e != api.ErrArg {
			t.Errorf("Bin(%d, wide %v, signed %v, least, %#x): %#x, error %d; want ErrArg", op, wide, signed, b, n, e)
		}
	}
}

// 1.1: ErrArg for an op that is none, and for signed with an op that is neither 48 nor 144.
func TestBinRefuses(t *testing.T) {
	ops := map[int]bool{}
	for _, op := range binOps {
		ops[op] = true
	}
	wrong := []int{math.MinInt, math.MinInt + 48, math.MaxInt, math.MaxInt - 15, 1 << 32, 1<<32 + 48, 1<<62 + 144}
	for op := -600; op <= 600; op++ {
		if !ops[op] {
			wrong = append(wrong, op)
		}
	}
	for _, wide := range []bool{false, true} {
		for _, op := range wrong {
			refused(t, op, wide, false)
			refused(t, op, wide, true)
		}
		for _, op := range binOps {
			if op != 48 && op != 144 {
				refused(t, op, wide, true)
			}
		}
	}
}

// grid is numbers near each edge of both widths.
func grid() []uint64 {
	var l []uint64
	for _, n := range []uint64{0, 31, 63, least32, minus32 - 1, upper, least, 0x8000000080000000, 0x123456789ABCDEF} {
		for _, d := range []uint64{0, 1, 2, 7} {
			l = append(l, n+d, n-d)
		}
	}
	return l
}

// number is n's lowest bits as a number without an end.
func number(n uint64, bits uint, signed bool) *big.Int {
	x := new(big.Int).SetUint64(n)
	x.Mod(x, new(big.Int).Lsh(big.NewInt(1), bits))
	if signed && x.Bit(int(bits)-1) == 1 {
		x.Sub(x, new(big.Int).Lsh(big.NewInt(1), bits))
	}
	return x
}

// model tells Bin's answer from numbers that have no edges.
func model(op int, wide, signed bool, a, b uint64) uint64 {
	bits := uint(32)
	if wide {
		bits = 64
	}
	count := uint(b % uint64(bits))
	x, y, z := number(a, bits, signed || op == 192), number(b, bits, signed), new(big.Int)
	switch op {
	case 0:
		z.Add(x, y)
	case 16:
		z.Sub(x, y)
	case 32:
		z.Mul(x, y)
	case 48:
		if y.Sign() != 0 {
			z.Quo(x, y)
		}
	case 64:
		z.Or(x, y)
	case 80:
		z.And(x, y)
	case 96:
		z.Lsh(x, count)
	case 112, 192:
		z.Rsh(x, count)
	case 128:
		z.Neg(x)
	case 144:
		z.Set(x)
		if y.Sign() != 0 {
			z.Rem(x, y)
		}
	case 160:
		z.Xor(x, y)
	case 176:
		z.Set(y)
	}
	return z.Mod(z, new(big.Int).Lsh(big.NewInt(1), bits)).Uint64()
}

// 1.1: all ops tell what numbers without edges tell.
func TestBinIsArithmetic(t *testing.T) {
	for _, op := range binOps {
		for _, wide := range []bool{false, true} {
			for _, a := range grid() {
				for _, b := range grid() {
					checkBin(t, []binCase{{op, wide, false, a, b, model(op, wide, false, a, b)}})
					if op == 48 || op == 144 {
						checkBin(t, []binCase{{op, wide, true, a, b, model(op, wide, true, a, b)}})
					}
				}
			}
		}
	}
}

// 1.4: of 32 bits only the lower halves play a part, and the answer has no upper one.
func TestBinNarrowHasNoUpperHalf(t *testing.T) {
	for _, op := range binOps {
		for _, signed := range []bool{false, op == 48 || op == 144} {
			for _, a := range grid() {
				for _, b := range grid() {
					n, e := alu.Bin(op, false, signed, a, b)
					m, f := alu.Bin(op, false, signed, a^upper, b^(least+minus32))
					if n>>32 != 0 || n != m || e != api.OK || f != api.OK {
						t.Fatalf("Bin(%d, signed %v, %#x, %#x): %#x, error %d; with other upper halves %#x, error %d", op, signed, a, b, n, e, m, f)
					}
				}
			}
		}
	}
}

// 1.4: adding and taking away undo one another.
func TestAddAndLessUndo(t *testing.T) {
	for _, wide := range []bool{false, true} {
		for _, a := range grid() {
			for _, b := range grid() {
				want, _ := alu.Bin(176, wide, false, 0, a)
				sum, _ := alu.Bin(0, wide, false, a, b)
				back, _ := alu.Bin(16, wide, false, sum, b)
				less, _ := alu.Bin(16, wide, false, a, b)
				again, _ := alu.Bin(0, wide, false, less, b)
				if back != want || again != want {
					t.Fatalf("wide %v, %#x and %#x: %#x, %#x; want %#x", wide, a, b, back, again, want)
				}
			}
		}
	}
}
