package scalar_test

import (
	"math"
	"testing"

	"portcullis/alu"
	"portcullis/api"
	"portcullis/scalar"
)

var binOps = []int{0, 16, 32, 48, 64, 80, 96, 112, 128, 144, 160, 176, 192}

type binCase struct {
	op           int
	wide, signed bool
	a, b, due    api.Scalar
}

func checkBin(t *testing.T, cases []binCase) {
	t.Helper()
	for _, c := range cases {
		mayBe(t, c.a)
		mayBe(t, c.b)
		got, err := scalar.Bin(c.op, c.wide, c.signed, c.a, c.b)
		wantOK(t, got, err, c.due, "Bin(%d, wide %v, signed %v, %#x, %#x)", c.op, c.wide, c.signed, c.a, c.b)
	}
}

// pair is a case of an op that the test names.
type pair struct{ a, b, due api.Scalar }

// checkPairs looks at one op, not signed.
func checkPairs(t *testing.T, op int, wide bool, pairs []pair) {
	t.Helper()
	for _, p := range pairs {
		checkBin(t, []binCase{{op, wide, false, p.a, p.b, p.due}})
	}
}

// The chapter's examples; the last one's Max is even, as its lowest bit is known.
func TestBinExamples(t *testing.T) {
	byte8 := unknown(8)
	checkBin(t, []binCase{
		{0, true, false, byte8, one(4), is(0, 511, 4, 259)},
		{80, true, false, byte8, one(7), unknown(3)},
		{96, true, false, byte8, one(2), is(0, 1020, 0, 1020)},
		{32, false, false, unknown(64), one(2), is(0, low32-1, 0, low32-1)},
	})
}

// 16.4: of two constants each op is what alu makes of them, at all edges.
func TestBinConst(t *testing.T) {
	edge := []uint64{0, 1, 2, 5, 7, 31, 32, 33, 63, 64, 65, top32 - 1, top32, low32, low32 + 1, low32 + 8, top - 1, top, top + 1, all - 6, all - 1, all, upper, upper + 5, upper + top32}
	for _, op := range binOps {
		for _, wide := range []bool{true, false} {
			for _, signed := range []bool{false, true} {
				for _, x := range edge {
					for _, y := range edge {
						if n, err := alu.Bin(op, wide, signed, x, y); err == api.OK {
							checkBin(t, []binCase{{op, wide, signed, one(x), one(y), one(n)}})
						}
					}
				}
			}
		}
	}
}

// 16.4: some of them in numbers, those divided by 0 among them.
func TestBinConstInNumbers(t *testing.T) {
	for _, c := range []struct {
		op           int
		wide, signed bool
		a, b, due    uint64
	}{
		{0, true, false, 3, 4, 7}, {0, true, false, all, 1, 0}, {0, false, false, low32, 1, 0}, {0, false, false, upper + 3, upper + 4, 7},
		{16, true, false, 0, 1, all}, {16, false, false, 0, 1, low32}, {32, true, false, 1 << 32, 1 << 32, 0}, {32, false, false, 1 << 31, 3, 1 << 31},
		{48, true, false, 43, 6, 7}, {48, true, false, 43, 0, 0}, {48, false, false, 43, upper, 0}, {48, true, true, 43, 0, 0}, {48, false, true, 43, 0, 0},
		{144, true, false, 43, 6, 1}, {144, true, false, 43, 0, 43}, {144, false, false, upper + 43, 0, 43}, {144, true, true, all - 6, 0, all - 6}, {144, false, true, all - 6, 0, low32 - 6},
		{48, true, true, all - 6, 2, all - 2}, {144, true, true, all - 6, 2, all}, {48, false, true, low32 - 6, 2, low32 - 2}, {144, false, true, low32 - 6, 2, low32},
		{48, true, true, top, all, top}, {144, true, true, top, all, 0}, {48, false, true, top32, low32, top32}, {144, false, true, top32, low32, 0},
		{64, true, false, 12, 10, 14}, {80, true, false, 12, 10, 8}, {160, true, false, 12, 10, 6}, {64, false, false, upper + 12, 10, 14},
		{96, true, false, 5, 65, 10}, {96, false, false, 5, 33, 10}, {112, true, false, top, 127, 1}, {112, false, false, top32, 63, 1}, {192, true, false, top, 127, all}, {192, false, false, top32, 63, low32}, {192, false, false, top + 8, 2, 2},
		{128, true, false, 5, 77, all - 4}, {128, false, false, 5, 77, low32 - 4}, {128, true, false, 0, 77, 0}, {176, true, false, 5, upper + 7, upper + 7}, {176, false, false, 5, upper + 7, 7},
	} {
		checkBin(t, []binCase{{c.op, c.wide, c.signed, one(c.a), one(c.b), one(c.due)}})
	}
}

// 16.4: add: both sums, where the sum of both Max is not above the greatest number.
func TestBinAdd(t *testing.T) {
	checkPairs(t, 0, true, []pair{
		{is(0, 15, 3, 9), one(4), is(0, 15, 7, 13)},
		{is(0, 15, 3, 9), is(0, 3, 1, 2), is(0, 15, 4, 11)},
		{is(0, 3, 0, 3), is(4, 8, 4, 12), is(4, 11, 4, 15)},
		{is(0, all, 5, all-255), unknown(8), is(0, all, 5, all)},
		{is(0, all, 5, all-255), is(0, 511, 0, 256), unknown(64)},
		{unknown(8), is(0, all, 5, all-255), is(0, all, 5, all)},
		{is(0, 511, 0, 256), is(0, all, 5, all-255), unknown(64)},
		{is(top, 7, top+1, top+6), is(0, top-1, 3, top-7), is(top, top-1, top+4, all)},
		{is(top, 7, top+1, top+6), is(0, top-1, 3, top-6), unknown(64)},
		{unknown(64), one(0), unknown(64)},
		{unknown(64), one(1), unknown(64)},
		{is(0, all-1, 0, all-1), one(1), is(1, all-1, 1, all)},
		{is(0, all, 0, all-1), one(1), is(0, all, 1, all)},
		{is(all-3, 3, all-3, all), one(4), is(0, 3, 0, 3)},
		{is(all-3, 3, all-3, all-1), one(2), unknown(64)},
	})
	checkPairs(t, 0, false, []pair{
		{is(0, low32, 5, low32-255), unknown(8), is(0, low32, 5, low32)},
		{is(0, low32, 5, low32-255), is(0, 511, 0, 256), unknown(32)},
		{is(low32-3, 3, low32-3, low32), one(4), is(0, 3, 0, 3)},
		{unknown(64), one(1), unknown(32)},
		{is(0, all, 5, all), unknown(8), unknown(32)},
	})
}

// 16.4: less: both differences, where a.Min is at least b.Max.
func TestBinLess(t *testing.T) {
	checkPairs(t, 16, true, []pair{
		{is(8, 7, 8, 15), is(0, 15, 0, 8), unknown(4)},
		{is(0, 15, 7, 15), is(0, 15, 0, 8), unknown(64)},
		{is(8, 7, 9, 15), is(0, 15, 0, 8), is(0, 15, 1, 15)},
		{is(16, 15, 20, 30), is(0, 3, 1, 2), is(16, 15, 18, 29)},
		{is(16, 15, 20, 30), one(20), is(0, 15, 0, 10)},
		{is(16, 15, 20, 30), one(21), unknown(64)},
		{is(0, 15, 7, 15), one(7), is(0, 15, 0, 8)},
		{one(100), is(0, 127, 3, 100), is(0, 127, 0, 97)},
		{one(100), is(0, 127, 3, 101), unknown(64)},
		{one(0), is(0, 1, 0, 1), unknown(64)},
		{one(0), is(1, 2, 1, 3), is(all-2, 2, all-2, all)},
		{one(all), unknown(64), unknown(64)},
		{one(all), is(0, all, 5, all-3), is(0, all, 3, all-5)},
		{unknown(64), unknown(64), unknown(64)},
		{is(top, 3, top+1, top+2), is(0, 3, 1, 2), is(0, all, top-1, top+1)},
	})
	checkPairs(t, 16, false, []pair{
		{is(8, 7, 8, 15), is(0, 15, 0, 8), unknown(4)},
		{is(0, 15, 7, 15), is(0, 15, 0, 8), unknown(32)},
		{one(0), is(1, 2, 1, 3), is(low32-2, 2, low32-2, low32)},
		{is(1<<32+8, 7, 1<<32+9, 1<<32+14), one(5), is(0, 15, 3, 10)},
	})
}

// 16.4: times: both products, where both Max are below 2^32.
func TestBinTimes(t *testing.T) {
	checkPairs(t, 32, true, []pair{
		{unknown(8), one(2), is(0, 510, 0, 510)},
		{one(2), unknown(8), is(0, 510, 0, 510)},
		{is(0, 255, 3, 200), one(4), is(0, 1020, 12, 800)},
		{is(0, low32, 3, low32), is(0, low32, 2, low32), is(0, all, 6, low32*low32)},
		{is(0, 1<<33-1, 3, 1<<32), is(0, low32, 2, low32), unknown(64)},
		{is(0, low32, 2, low32), is(0, 1<<33-1, 3, 1<<32), unknown(64)},
		{is(0, low32, 3, low32), one(low32), is(0, all, 3*low32, low32*low32)},
		{is(0, low32, 3, low32), one(low32 + 1), is(0, all-low32, 0, all-low32)},
		{one(low32 + 1), is(0, low32, 3, low32), is(0, all-low32, 0, all-low32)},
		{unknown(64), one(0), one(0)},
		{unknown(64), one(1), unknown(64)},
		{one(6), unknown(64), is(0, all-1, 0, all-1)},
		{unknown(64), unknown(64), unknown(64)},
	})
	checkPairs(t, 32, false, []pair{
		{unknown(8), one(2), is(0, 510, 0, 510)},
		{is(0, low32, 3, low32), one(1), is(0, low32, 3, low32)},
		{is(0, low32>>1, 3, low32>>1), one(2), is(0, low32-1, 6, low32-1)},
		{is(0, low32, 3, low32>>1+1), one(2), is(0, low32-1, 0, low32-1)},
		{unknown(64), one(upper), one(0)},
		{is(3, all-low32, 3, all-low32+3), is(0, 1, 0, 1), is(0, 3, 0, 3)},
	})
}

// 16.4: and: from 0 to the lesser Max.
func TestBinAnd(t *testing.T) {
	for _, wide := range []bool{true, false} {
		checkPairs(t, 80, wide, []pair{
			{unknown(8), one(7), unknown(3)},
			{one(7), unknown(8), unknown(3)},
			{unknown(64), one(12), is(0, 12, 0, 12)},
			{one(12), unknown(64), is(0, 12, 0, 12)},
			{is(0, 15, 3, 9), unknown(64), is(0, 15, 0, 9)},
			{unknown(64), is(0, 15, 3, 9), is(0, 15, 0, 9)},
			{is(8, 7, 9, 14), is(0, 15, 3, 11), is(0, 15, 0, 11)},
			{is(0, 15, 3, 11), is(8, 7, 9, 14), is(0, 15, 0, 11)},
			{is(8, 7, 9, 14), one(9), is(8, 1, 8, 9)},
			{is(8, 7, 9, 14), one(0), one(0)},
			{is(4, 1, 4, 5), one(4), one(4)},
		})
	}
	checkPairs(t, 80, true, []pair{{unknown(64), unknown(64), unknown(64)}, {is(0, all, 5, all-9), one(all), is(0, all, 0, all-9)}})
	checkPairs(t, 80, false, []pair{{unknown(64), unknown(64), unknown(32)}, {is(0, all, 5, all-9), one(all), unknown(32)}})
}

// 16.4: or: from the greater Min on; what is not wide is tight ahead of the cut, and so keeps that Min.
func TestBinOr(t *testing.T) {
	for _, wide := range []bool{true, false} {
		checkPairs(t, 64, wide, []pair{
			{unknown(8), one(256), is(256, 255, 256, 511)},
			{one(256), unknown(8), is(256, 255, 256, 511)},
			{unknown(8), one(5), is(5, 250, 5, 255)},
			{is(0, 15, 3, 9), is(4, 3, 5, 7), is(4, 11, 5, 15)},
			{is(4, 3, 5, 7), is(0, 15, 3, 9), is(4, 11, 5, 15)},
			{is(0, 15, 6, 9), is(0, 15, 3, 11), is(0, 15, 6, 15)},
			{is(0, 15, 6, 9), one(0), is(0, 15, 6, 15)},
			{is(0, 15, 6, 9), one(16), is(16, 15, 16, 31)},
			{is(4, 1, 4, 5), one(1), one(5)},
		})
	}
	checkPairs(t, 64, true, []pair{{unknown(64), unknown(64), unknown(64)}, {unknown(64), one(5), is(5, all-5, 5, all)}, {one(5), unknown(64), is(5, all-5, 5, all)}, {is(0, all, 7, all-9), unknown(64), is(0, all, 7, all)}})
	checkPairs(t, 64, false, []pair{{unknown(64), unknown(64), unknown(32)}, {unknown(64), one(5), is(5, low32-5, 5, low32)}, {one(5), unknown(64), is(5, low32-5, 5, low32)}, {is(0, low32, 7, low32-9), unknown(64), is(0, low32, 7, low32)}})
}

// 16.4: xor: what the Tnum tells.
func TestBinXor(t *testing.T) {
	for _, wide := range []bool{true, false} {
		checkPairs(t, 160, wide, []pair{
			{unknown(8), one(1), unknown(8)},
			{unknown(8), one(256), is(256, 255, 256, 511)},
			{one(256), unknown(8), is(256, 255, 256, 511)},
			{is(4, 3, 5, 6), one(4), is(0, 3, 0, 3)},
			{is(4, 3, 5, 6), one(0), is(4, 3, 4, 7)},
			{is(4, 3, 5, 6), is(8, 1, 8, 9), is(12, 3, 12, 15)},
		})
	}
	checkPairs(t, 160, true, []pair{{unknown(64), unknown(64), unknown(64)}, {unknown(64), one(5), unknown(64)}, {one(5), unknown(64), unknown(64)}, {is(0, 1, 0, 1), one(upper), is(upper, 1, upper, upper+1)}})
	checkPairs(t, 160, false, []pair{{unknown(64), unknown(64), unknown(32)}, {unknown(64), one(5), unknown(32)}, {one(5), unknown(64), unknown(32)}, {is(0, 1, 0, 1), one(upper), is(0, 1, 0, 1)}})
}

// 16.4: minus, as 0 less a: b plays no part.
func TestBinMinus(t *testing.T) {
	for _, b := range []api.Scalar{one(0), one(77), unknown(64), unknown(8), is(0, 15, 3, 9)} {
		checkPairs(t, 128, true, []pair{
			{one(5), b, one(all - 4)}, {one(0), b, one(0)}, {one(top), b, one(top)}, {one(all), b, one(1)},
			{unknown(8), b, unknown(64)}, {unknown(64), b, unknown(64)}, {is(0, 1, 0, 1), b, unknown(64)},
			{is(1, 2, 1, 3), b, is(all-2, 2, all-2, all)}, {is(0, top, 0, top), b, is(0, top, 0, top)}, {is(0, 12, 4, 8), b, is(0, all-3, 0, all-3)},
		})
		checkPairs(t, 128, false, []pair{
			{one(5), b, one(low32 - 4)}, {one(upper), b, one(0)}, {one(top32), b, one(top32)}, {one(low32), b, one(1)}, {one(all), b, one(1)},
			{unknown(8), b, unknown(32)}, {unknown(64), b, unknown(32)}, {is(0, 1, 0, 1), b, unknown(32)},
			{is(1, 2, 1, 3), b, is(low32-2, 2, low32-2, low32)}, {is(0, top, 0, top), b, one(0)}, {is(upper+1, 2, upper+1, upper+3), b, is(low32-2, 2, low32-2, low32)},
		})
	}
}

// 16.4: 176: b, whatever a is; a has no part in it.
func TestBinSet(t *testing.T) {
	for _, a := range []api.Scalar{one(0), one(77), unknown(64), unknown(8), is(0, 15, 3, 9)} {
		checkPairs(t, 176, true, []pair{{a, one(5), one(5)}, {a, one(upper), one(upper)}, {a, unknown(64), unknown(64)}, {a, is(1, 10, 3, 9), is(1, 10, 3, 9)}, {a, is(upper+1, 10, upper+3, upper+9), is(upper+1, 10, upper+3, upper+9)}})
		checkPairs(t, 176, false, []pair{{a, one(5), one(5)}, {a, one(upper), one(0)}, {a, unknown(64), unknown(32)}, {a, is(1, 10, 3, 9), is(1, 10, 3, 9)}, {a, is(upper+1, 10, upper+3, upper+9), is(1, 10, 1, 11)}})
	}
}

// 16.4: not wide: upper halves play no part, known or not, and the answer has none; one number behind the cut is one number.
func TestBinNarrow(t *testing.T) {
	five, seven := is(5, all-low32, 5, all-low32+5), is(7, 3<<40, 7, 3<<40+7)
	for _, op := range binOps {
		n, _ := alu.Bin(op, false, false, 5, 7)
		checkPairs(t, op, false, []pair{{five, seven, one(n)}, {one(upper + 5), one(7), one(n)}, {five, one(upper + 7), one(n)}, {one(upper + 5), seven, one(n)}})
	}
	for _, op := range []int{48, 144} {
		n, _ := alu.Bin(op, false, true, low32-4, 2)
		checkBin(t, []binCase{{op, false, true, is(low32-4, all-low32, low32-4, all-4), is(2, 3<<40, 2, 3<<40+2), one(n)}})
	}
	other, high := is(2, 4, 2, 6), is(upper+2, 4, upper+2, upper+6)
	for _, op := range binOps {
		for _, whole := range mixed() {
			part := cut(whole, 32)
			left, _ := scalar.Bin(op, false, false, part, other)
			right, _ := scalar.Bin(op, false, false, other, part)
			if left.Max > low32 || right.Max > low32 {
				t.Errorf("Bin(%d, 32 bits) of %#x: %#x, %#x have an upper half", op, part, left, right)
			}
			checkPairs(t, op, false, []pair{{whole, other, left}, {part, high, left}, {whole, high, left}, {other, whole, right}, {high, part, right}, {high, whole, right}})
		}
	}
}

// 16.4, R2: ErrArg for every other op, and wherever alu refuses signed numbers; nothing beside it.
func TestBinRefuses(t *testing.T) {
	known := map[int]bool{}
	for _, op := range binOps {
		known[op] = true
	}
	ops := []int{math.MinInt, math.MinInt + 16, math.MaxInt, math.MaxInt - 15, 1 << 32, 1<<32 + 16, 1<<62 + 64}
	for op := -600; op <= 600; op++ {
		ops = append(ops, op)
	}
	l := []api.Scalar{one(0), one(5), unknown(64), is(0, 15, 3, 9), is(1, 4, 2, 4)}
	for _, op := range ops {
		for _, signed := range []bool{false, true} {
			if known[op] && (!signed || op == 48 || op == 144) {
				continue
			}
			for _, a := range l {
				for _, b := range l {
					for _, wide := range []bool{true, false} {
						got, err := scalar.Bin(op, wide, signed, a, b)
						wantArg(t, got, err, "Bin(%d, wide %v, signed %v, %#x, %#x)", op, wide, signed, a, b)
					}
				}
			}
		}
	}
}

// 16.4: where Tight is false, which it may be of a or b without a number alone, the zero scalar.
func TestBinNothing(t *testing.T) {
	none := is(1, 4, 2, 4)
	for _, wide := range []bool{true, false} {
		checkPairs(t, 0, wide, []pair{{none, one(2), one(0)}, {one(2), none, one(0)}, {none, one(3), one(0)}, {is(0, 2, 1, 2), is(4, 8, 7, 8), one(0)}})
		checkPairs(t, 16, wide, []pair{{none, one(1), one(0)}, {none, one(2), one(0)}, {one(4), none, one(0)}})
		checkPairs(t, 32, wide, []pair{{is(3, 8, 6, 8), one(11), one(0)}, {one(5), is(4, 8, 7, 8), one(0)}})
	}
}
