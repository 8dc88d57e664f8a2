package tnum_test

import (
	"math"
	"testing"

	"portcullis/api"
	"portcullis/tnum"
)

var binOps = []int{0, 16, 80, 64, 160, 32}

type binCase struct {
	op        int
	a, b, due api.Tnum
}

func checkBin(t *testing.T, cases []binCase) {
	t.Helper()
	for _, c := range cases {
		got, err := tnum.Bin(c.op, c.a, c.b)
		wantOK(t, got, err, c.due, "Bin(%d, {%#x, %#x}, {%#x, %#x})", c.op, c.a.Value, c.a.Mask, c.b.Value, c.b.Mask)
	}
}

// The chapter's example of Bin.
func TestBinExample(t *testing.T) {
	checkBin(t, []binCase{{0, api.Tnum{Mask: 1}, api.Tnum{Value: 4}, api.Tnum{Value: 4, Mask: 1}}})
}

// 15.2: each op of two constants is the number that it makes of them.
func TestBinConst(t *testing.T) {
	for _, c := range []struct {
		op        int
		a, b, due uint64
	}{
		{0, 3, 4, 7}, {0, all, 1, 0}, {0, all, all, all - 1}, {0, top, top, 0}, {0, low32, 1, low32 + 1}, {0, 0, 0, 0},
		{16, 8, 1, 7}, {16, 0, 1, all}, {16, 0, all, 1}, {16, top, 1, top - 1}, {16, low32 + 1, 1, low32}, {16, 1, top, top + 1}, {16, all, all, 0},
		{80, 12, 10, 8}, {80, all, 5, 5}, {80, top + 1, top, top}, {80, 1, 2, 0},
		{64, 12, 10, 14}, {64, top, 1, top + 1}, {64, 0, 0, 0}, {64, all, 5, all},
		{160, 12, 10, 6}, {160, all, all, 0}, {160, all, 1, all - 1}, {160, top, 1, top + 1},
		{32, 3, 5, 15}, {32, all, all, 1}, {32, top, 2, 0}, {32, low32 + 1, low32 + 1, 0}, {32, all, 2, all - 1}, {32, top, 3, top}, {32, 0, all, 0}, {32, all, 0, 0}, {32, all, 1, all}, {32, 1, all, all},
	} {
		checkBin(t, []binCase{{c.op, api.Tnum{Value: c.a}, api.Tnum{Value: c.b}, api.Tnum{Value: c.due}}})
	}
}

// 15.2: add: carries that are known, that are not, and that go beyond the highest bit.
func TestBinAdd(t *testing.T) {
	checkBin(t, []binCase{
		{0, api.Tnum{Mask: 1}, api.Tnum{Value: 1}, api.Tnum{Mask: 3}},
		{0, api.Tnum{Value: 1}, api.Tnum{Mask: 1}, api.Tnum{Mask: 3}},
		{0, api.Tnum{Mask: 2}, api.Tnum{Value: 1}, api.Tnum{Value: 1, Mask: 2}},
		{0, api.Tnum{Value: 1, Mask: 4}, api.Tnum{Value: 1, Mask: 8}, api.Tnum{Value: 2, Mask: 12}},
		{0, api.Tnum{Value: 1, Mask: 2}, api.Tnum{Value: 1}, api.Tnum{Mask: 6}},
		{0, api.Tnum{Value: 2, Mask: 1}, api.Tnum{Value: 1}, api.Tnum{Mask: 7}},
		{0, api.Tnum{Value: 3, Mask: 4}, api.Tnum{Value: 1}, api.Tnum{Mask: 12}},
		{0, api.Tnum{Mask: 3}, api.Tnum{Mask: 3}, api.Tnum{Mask: 7}},
		{0, api.Tnum{Value: 4, Mask: 3}, api.Tnum{Value: 8, Mask: 3}, api.Tnum{Mask: 31}},
		{0, api.Tnum{Value: 16, Mask: 1}, api.Tnum{Value: 32, Mask: 2}, api.Tnum{Value: 48, Mask: 3}},
		{0, api.Tnum{Value: low32}, api.Tnum{Mask: 1}, api.Tnum{Mask: 1<<33 - 1}},
		{0, api.Tnum{Value: top}, api.Tnum{Mask: top}, api.Tnum{Mask: top}},
		{0, api.Tnum{Mask: top}, api.Tnum{Mask: top}, api.Tnum{Mask: top}},
		{0, api.Tnum{Value: 1, Mask: top}, api.Tnum{Value: 2, Mask: top}, api.Tnum{Value: 3, Mask: top}},
		{0, api.Tnum{Value: all}, api.Tnum{Mask: 1}, api.Tnum{Mask: all}},
		{0, api.Tnum{Value: all - 1, Mask: 1}, api.Tnum{Value: 1}, api.Tnum{Mask: all}},
		{0, api.Tnum{Value: all - 1, Mask: 1}, api.Tnum{Value: 2}, api.Tnum{Mask: 1}},
	})
}

// 15.2: less: borrows that are known, that are not, and differences below 0.
func TestBinLess(t *testing.T) {
	checkBin(t, []binCase{
		{16, api.Tnum{Value: 4, Mask: 1}, api.Tnum{Value: 4}, api.Tnum{Mask: 1}},
		{16, api.Tnum{Value: 4, Mask: 1}, api.Tnum{Value: 1}, api.Tnum{Mask: 7}},
		{16, api.Tnum{Value: 5}, api.Tnum{Mask: 1}, api.Tnum{Value: 4, Mask: 1}},
		{16, api.Tnum{Value: 4}, api.Tnum{Mask: 1}, api.Tnum{Mask: 7}},
		{16, api.Tnum{Value: 8}, api.Tnum{Mask: 3}, api.Tnum{Mask: 15}},
		{16, api.Tnum{Value: 8, Mask: 3}, api.Tnum{Value: 8}, api.Tnum{Mask: 3}},
		{16, api.Tnum{Value: 12, Mask: 3}, api.Tnum{Value: 8, Mask: 3}, api.Tnum{Mask: 7}},
		{16, api.Tnum{Mask: 1}, api.Tnum{Mask: 1}, api.Tnum{Mask: all}},
		{16, api.Tnum{}, api.Tnum{Mask: 1}, api.Tnum{Mask: all}},
		{16, api.Tnum{}, api.Tnum{Value: 1, Mask: 2}, api.Tnum{Value: all - 2, Mask: 2}},
		{16, api.Tnum{}, api.Tnum{Value: 2, Mask: 1}, api.Tnum{Value: all - 3, Mask: 3}},
		{16, api.Tnum{Mask: top}, api.Tnum{}, api.Tnum{Mask: top}},
		{16, api.Tnum{}, api.Tnum{Mask: top}, api.Tnum{Mask: top}},
		{16, api.Tnum{Mask: top}, api.Tnum{Mask: top}, api.Tnum{Mask: top}},
		{16, api.Tnum{Mask: top}, api.Tnum{Value: 1}, api.Tnum{Value: top - 1, Mask: top}},
		{16, api.Tnum{Mask: 2}, api.Tnum{Value: 1}, api.Tnum{Value: 1, Mask: all - 1}},
	})
}

// 15.2: and, or, xor: each bit by itself.
func TestBinBits(t *testing.T) {
	checkBin(t, []binCase{
		{80, api.Tnum{Mask: 255}, api.Tnum{Value: 7}, api.Tnum{Mask: 7}},
		{80, api.Tnum{Value: 4, Mask: 1}, api.Tnum{Value: 5}, api.Tnum{Value: 4, Mask: 1}},
		{80, api.Tnum{Value: 4, Mask: 1}, api.Tnum{Value: 6}, api.Tnum{Value: 4}},
		{80, api.Tnum{Mask: 3}, api.Tnum{Mask: 6}, api.Tnum{Mask: 2}},
		{80, api.Tnum{Value: 4, Mask: 1}, api.Tnum{Value: 1, Mask: 4}, api.Tnum{Mask: 5}},
		{80, api.Tnum{Value: top, Mask: 1}, api.Tnum{Value: 1, Mask: top}, api.Tnum{Mask: top + 1}},
		{80, api.Tnum{Value: top + 8, Mask: 3}, api.Tnum{Value: top + 2, Mask: 12}, api.Tnum{Value: top, Mask: 10}},
		{64, api.Tnum{Mask: 3}, api.Tnum{Value: 1}, api.Tnum{Value: 1, Mask: 2}},
		{64, api.Tnum{Value: 1}, api.Tnum{Mask: 3}, api.Tnum{Value: 1, Mask: 2}},
		{64, api.Tnum{Value: 4, Mask: 1}, api.Tnum{Value: 1, Mask: 4}, api.Tnum{Value: 5}},
		{64, api.Tnum{Mask: 3}, api.Tnum{Mask: 6}, api.Tnum{Mask: 7}},
		{64, api.Tnum{Value: top, Mask: 1}, api.Tnum{Mask: top + 2}, api.Tnum{Value: top, Mask: 3}},
		{160, api.Tnum{Value: 5}, api.Tnum{Value: 4, Mask: 1}, api.Tnum{Mask: 1}},
		{160, api.Tnum{Value: 4, Mask: 1}, api.Tnum{Value: 5}, api.Tnum{Mask: 1}},
		{160, api.Tnum{Value: 4, Mask: 1}, api.Tnum{Value: 4, Mask: 1}, api.Tnum{Mask: 1}},
		{160, api.Tnum{Value: 4, Mask: 1}, api.Tnum{Value: 1, Mask: 4}, api.Tnum{Mask: 5}},
		{160, api.Tnum{Value: 8, Mask: 1}, api.Tnum{Value: 2, Mask: 4}, api.Tnum{Value: 10, Mask: 5}},
		{160, api.Tnum{Value: top}, api.Tnum{Mask: top}, api.Tnum{Mask: top}},
		{160, api.Tnum{Value: all}, api.Tnum{Mask: 1}, api.Tnum{Value: all - 1, Mask: 1}},
	})
}

// 15.2: times: what each bit of a that is or may be 1 adds, step by step.
func TestBinTimes(t *testing.T) {
	checkBin(t, []binCase{
		{32, api.Tnum{Mask: 1}, api.Tnum{Value: 5}, api.Tnum{Mask: 5}},
		{32, api.Tnum{Value: 5}, api.Tnum{Mask: 1}, api.Tnum{Mask: 5}},
		{32, api.Tnum{Value: 5}, api.Tnum{Value: 2, Mask: 1}, api.Tnum{Value: 10, Mask: 5}},
		{32, api.Tnum{Value: 2, Mask: 1}, api.Tnum{Value: 5}, api.Tnum{Value: 10, Mask: 5}},
		{32, api.Tnum{Value: 1}, api.Tnum{Value: 5, Mask: 2}, api.Tnum{Value: 5, Mask: 2}},
		{32, api.Tnum{Mask: 1}, api.Tnum{Value: 5, Mask: 2}, api.Tnum{Mask: 7}},
		{32, api.Tnum{Value: 5, Mask: 2}, api.Tnum{Mask: 1}, api.Tnum{Mask: 7}},
		{32, api.Tnum{Value: 7}, api.Tnum{Mask: 1}, api.Tnum{Mask: 7}},
		{32, api.Tnum{Value: 3}, api.Tnum{Mask: 3}, api.Tnum{Mask: 15}},
		{32, api.Tnum{Mask: 3}, api.Tnum{Value: 3}, api.Tnum{Mask: 15}},
		{32, api.Tnum{Mask: 5}, api.Tnum{Value: 3}, api.Tnum{Mask: 15}},
		{32, api.Tnum{Value: 3}, api.Tnum{Value: 4, Mask: 1}, api.Tnum{Value: 12, Mask: 3}},
		{32, api.Tnum{Value: 4, Mask: 1}, api.Tnum{Value: 3}, api.Tnum{Value: 12, Mask: 3}},
		{32, api.Tnum{Value: 3}, api.Tnum{Value: 1, Mask: 2}, api.Tnum{Value: 1, Mask: 14}},
		{32, api.Tnum{Value: 1, Mask: 2}, api.Tnum{Value: 1, Mask: 2}, api.Tnum{Value: 1, Mask: 14}},
		{32, api.Tnum{Mask: top}, api.Tnum{Value: 3}, api.Tnum{Mask: top}},
		{32, api.Tnum{Value: 3}, api.Tnum{Mask: top}, api.Tnum{Mask: top}},
		{32, api.Tnum{Mask: top}, api.Tnum{Value: 2}, api.Tnum{}},
		{32, api.Tnum{Value: 2}, api.Tnum{Mask: top}, api.Tnum{}},
		{32, api.Tnum{Value: 1, Mask: top}, api.Tnum{Value: 3}, api.Tnum{Value: 3, Mask: top}},
		{32, api.Tnum{Mask: top}, api.Tnum{Mask: top}, api.Tnum{}},
		{32, api.Tnum{Value: low32 + 1}, api.Tnum{Value: 3, Mask: 1 << 40}, api.Tnum{Value: 3 << 32}},
		{32, api.Tnum{Value: low32 + 1}, api.Tnum{Value: 3, Mask: 1 << 31}, api.Tnum{Value: 3 << 32, Mask: top}},
	})
}

// 15.2: Unknown on either side, and on both.
func TestBinUnknown(t *testing.T) {
	unknown := api.Tnum{Mask: all}
	for _, c := range []struct {
		op      int
		n       uint64 // what stands at the other side
		due     api.Tnum
		swapped api.Tnum
	}{
		{0, 0, unknown, unknown}, {0, 5, unknown, unknown}, {0, all, unknown, unknown},
		{16, 0, unknown, unknown}, {16, 5, unknown, unknown}, {16, all, unknown, unknown},
		{80, 0, api.Tnum{}, api.Tnum{}}, {80, 5, api.Tnum{Mask: 5}, api.Tnum{Mask: 5}}, {80, all, unknown, unknown},
		{64, 0, unknown, unknown}, {64, 5, api.Tnum{Value: 5, Mask: all - 5}, api.Tnum{Value: 5, Mask: all - 5}}, {64, all, api.Tnum{Value: all}, api.Tnum{Value: all}},
		{160, 0, unknown, unknown}, {160, 5, unknown, unknown}, {160, all, unknown, unknown},
		{32, 0, api.Tnum{}, api.Tnum{}}, {32, 1, unknown, unknown}, {32, 2, api.Tnum{Mask: all - 1}, api.Tnum{Mask: all - 1}},
		{32, 6, api.Tnum{Mask: all - 1}, api.Tnum{Mask: all - 1}}, {32, top, api.Tnum{Mask: top}, api.Tnum{Mask: top}}, {32, all, unknown, unknown},
	} {
		other := api.Tnum{Value: c.n}
		checkBin(t, []binCase{{c.op, unknown, other, c.due}, {c.op, other, unknown, c.swapped}})
	}
	for _, op := range binOps {
		checkBin(t, []binCase{{op, unknown, unknown, unknown}})
	}
}

// digit is what an op makes of one bit of each side and of what the place below carries; and what it carries itself.
func digit(op int, x, y, carry int) (int, int) {
	switch op {
	case 0:
		n := x + y + carry
		return n & 1, n >> 1
	case 16:
		n := x - y - carry
		if n < 0 {
			return n + 2, 1
		}
		return n, 0
	case 80:
		return x & y, 0
	case 64:
		return x | y, 0
	}
	return x ^ y, 0
}

// may answers which of 0 and 1 the bit at that place may be.
func may(x api.Tnum, place int) []int {
	if x.Mask>>place&1 == 1 {
		return []int{0, 1}
	}
	return []int{int(x.Value >> place & 1)}
}

// byDigits answers what an op but times makes of a and b: place by place, with all that the bits and the carry may be there.
func byDigits(op int, a, b api.Tnum) api.Tnum {
	var answer api.Tnum
	carries := []int{0}
	for place := range 64 {
		var bits, next [2]bool
		for _, x := range may(a, place) {
			for _, y := range may(b, place) {
				for _, carry := range carries {
					bit, carried := digit(op, x, y, carry)
					bits[bit], next[carried] = true, true
				}
			}
		}
		if bits[0] && bits[1] {
			answer.Mask |= 1 << place
		} else if bits[1] {
			answer.Value |= 1 << place
		}
		carries = carries[:0]
		for n, ok := range next {
			if ok {
				carries = append(carries, n)
			}
		}
	}
	return answer
}

// product answers what times makes of a and b: of each place of a what it adds to the unknown bits, in rising order.
func product(a, b api.Tnum) api.Tnum {
	var unknown api.Tnum
	for place := range 64 {
		if a.Value>>place&1 == 1 {
			unknown = byDigits(0, unknown, api.Tnum{Mask: b.Mask << place})
		} else if a.Mask>>place&1 == 1 {
			unknown = byDigits(0, unknown, api.Tnum{Mask: (b.Value | b.Mask) << place})
		}
	}
	return byDigits(0, api.Tnum{Value: a.Value * b.Value}, unknown)
}

// model tells Bin's answer.
func model(op int, a, b api.Tnum) api.Tnum {
	if op == 32 {
		return product(a, b)
	}
	return byDigits(op, a, b)
}

// 15.2: each op, of all pairs of tnums at the edges, is what goes place by place.
func TestBinEdges(t *testing.T) {
	for _, op := range binOps {
		for _, a := range edges() {
			for _, b := range edges() {
				checkBin(t, []binCase{{op, a, b, model(op, a, b)}})
			}
		}
	}
}

// 15.2: likewise of many tnums that look like chance.
func TestBinDrawn(t *testing.T) {
	draw := draws()
	for range 5000 {
		a, b := drawn(draw), drawn(draw)
		for _, op := range binOps {
			checkBin(t, []binCase{{op, a, b, model(op, a, b)}})
		}
		if t.Failed() {
			return
		}
	}
}

// 15.2: likewise times of all tnums of four places, low and high, where the order of the steps tells.
func TestBinTimesSmall(t *testing.T) {
	low := laid(0, 0, 1, 2, 3)
	for _, l := range [][]api.Tnum{low, laid(top+1, 60, 61, 62)} {
		for _, a := range low {
			for _, b := range l {
				checkBin(t, []binCase{{32, a, b, product(a, b)}, {32, b, a, product(b, a)}})
			}
			if t.Failed() {
				return
			}
		}
	}
}

// 15.2, R2: ErrArg for every other op, and nothing beside it.
func TestBinRefuses(t *testing.T) {
	wrong := []int{-1, 48, 96, 112, 128, 144, 192, 208, 256, math.MinInt, math.MinInt + 16, math.MaxInt, math.MaxInt - 15, 1 << 32, 1<<32 + 16, 1<<62 + 64, -16, -32, -80, -256}
	for op := -600; op <= 600; op++ {
		switch op {
		case 0, 16, 80, 64, 160, 32:
			wrong = append(wrong, op+256, op-256, op+1<<16, op+1, op-1)
		default:
			wrong = append(wrong, op)
		}
	}
	for _, op := range wrong {
		for _, a := range []api.Tnum{{}, {Value: 1}, {Value: 4, Mask: 3}, {Mask: all}} {
			for _, b := range []api.Tnum{{}, {Value: 1}, {Value: 8, Mask: 5}, {Mask: all}} {
				got, err := tnum.Bin(op, a, b)
				wantArg(t, got, err, "Bin(%d, {%#x, %#x}, {%#x, %#x})", op, a.Value, a.Mask, b.Value, b.Mask)
			}
		}
	}
}
