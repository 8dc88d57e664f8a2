package tnum_test

import (
	"math"
	"testing"

	"portcullis/api"
	"portcullis/tnum"
)

var shiftOps = []int{96, 112, 192}

type shiftCase struct {
	op   int
	a    api.Tnum
	by   int
	wide bool
	due  api.Tnum
}

func checkShift(t *testing.T, cases []shiftCase) {
	t.Helper()
	for _, c := range cases {
		got, err := tnum.Shift(c.op, c.a, c.by, c.wide)
		wantOK(t, got, err, c.due, "Shift(%d, {%#x, %#x}, %d, %v)", c.op, c.a.Value, c.a.Mask, c.by, c.wide)
	}
}

// 15.3: each op, of 64 bits, of known and of unknown bits in the highest places and in the lowest.
func TestShiftWide(t *testing.T) {
	known, unknown := api.Tnum{Value: top + 5, Mask: 2}, api.Tnum{Value: 5, Mask: top + 2}
	checkShift(t, []shiftCase{
		{96, known, 0, true, known},
		{96, known, 1, true, api.Tnum{Value: 10, Mask: 4}},
		{96, known, 31, true, api.Tnum{Value: 5 << 31, Mask: 2 << 31}},
		{96, known, 32, true, api.Tnum{Value: 5 << 32, Mask: 2 << 32}},
		{96, known, 61, true, api.Tnum{Value: 5 << 61, Mask: 2 << 61}},
		{96, known, 62, true, api.Tnum{Value: 1 << 62, Mask: top}},
		{96, known, 63, true, api.Tnum{Value: top}},
		{96, unknown, 1, true, api.Tnum{Value: 10, Mask: 4}},
		{112, known, 0, true, known},
		{112, known, 1, true, api.Tnum{Value: 1<<62 + 2, Mask: 1}},
		{112, known, 31, true, api.Tnum{Value: 1 << 32}},
		{112, known, 32, true, api.Tnum{Value: 1 << 31}},
		{112, known, 63, true, api.Tnum{Value: 1}},
		{112, unknown, 0, true, unknown},
		{112, unknown, 1, true, api.Tnum{Value: 2, Mask: 1<<62 + 1}},
		{112, unknown, 31, true, api.Tnum{Mask: 1 << 32}},
		{112, unknown, 32, true, api.Tnum{Mask: 1 << 31}},
		{112, unknown, 63, true, api.Tnum{Mask: 1}},
		{192, known, 0, true, known},
		{192, known, 1, true, api.Tnum{Value: 3<<62 + 2, Mask: 1}},
		{192, known, 31, true, api.Tnum{Value: 0xFFFFFFFF00000000}},
		{192, known, 32, true, api.Tnum{Value: 0xFFFFFFFF80000000}},
		{192, known, 63, true, api.Tnum{Value: all}},
		{192, unknown, 0, true, unknown},
		{192, unknown, 1, true, api.Tnum{Value: 2, Mask: 3<<62 + 1}},
		{192, unknown, 31, true, api.Tnum{Mask: 0xFFFFFFFF00000000}},
		{192, unknown, 32, true, api.Tnum{Mask: 0xFFFFFFFF80000000}},
		{192, unknown, 63, true, api.Tnum{Mask: all}},
		{192, api.Tnum{Value: 5, Mask: 2}, 1, true, api.Tnum{Value: 2, Mask: 1}},
		{192, api.Tnum{Value: top32, Mask: top32 >> 1}, 4, true, api.Tnum{Value: top32 >> 4, Mask: top32 >> 5}},
	})
}

// 15.3: each op, of 32 bits: upper halves, known or not, play no part, and the answer has none, also shifted by 0.
func TestShiftNarrow(t *testing.T) {
	for _, up := range []api.Tnum{{}, {Value: upper}, {Mask: upper}, {Value: upper, Mask: 0x543210ED << 32}, {Mask: all - low32}, {Value: all - low32}} {
		with := func(value, mask uint64) api.Tnum { return api.Tnum{Value: up.Value + value, Mask: up.Mask + mask} }
		known, unknown := with(top32+5, 2), with(5, top32+2)
		checkShift(t, []shiftCase{
			{96, known, 0, false, api.Tnum{Value: top32 + 5, Mask: 2}},
			{96, known, 1, false, api.Tnum{Value: 10, Mask: 4}},
			{96, known, 29, false, api.Tnum{Value: 5 << 29, Mask: 2 << 29}},
			{96, known, 30, false, api.Tnum{Value: 1 << 30, Mask: top32}},
			{96, known, 31, false, api.Tnum{Value: top32}},
			{96, unknown, 0, false, api.Tnum{Value: 5, Mask: top32 + 2}},
			{96, unknown, 1, false, api.Tnum{Value: 10, Mask: 4}},
			{112, known, 0, false, api.Tnum{Value: top32 + 5, Mask: 2}},
			{112, known, 1, false, api.Tnum{Value: 1<<30 + 2, Mask: 1}},
			{112, known, 31, false, api.Tnum{Value: 1}},
			{112, unknown, 0, false, api.Tnum{Value: 5, Mask: top32 + 2}},
			{112, unknown, 1, false, api.Tnum{Value: 2, Mask: 1<<30 + 1}},
			{112, unknown, 31, false, api.Tnum{Mask: 1}},
			{192, known, 0, false, api.Tnum{Value: top32 + 5, Mask: 2}},
			{192, known, 1, false, api.Tnum{Value: 3<<30 + 2, Mask: 1}},
			{192, known, 31, false, api.Tnum{Value: low32}},
			{192, unknown, 0, false, api.Tnum{Value: 5, Mask: top32 + 2}},
			{192, unknown, 1, false, api.Tnum{Value: 2, Mask: 3<<30 + 1}},
			{192, unknown, 31, false, api.Tnum{Mask: low32}},
			{192, with(5, 2), 1, false, api.Tnum{Value: 2, Mask: 1}},
			{192, with(top32, 0), 4, false, api.Tnum{Value: 0xF8000000}},
			{192, with(0, top32), 4, false, api.Tnum{Mask: 0xF8000000}},
		})
	}
}

// source is the place whose bit goes to that place of the answer; false, if none does.
func source(op, place, by, width int) (int, bool) {
	switch from := place + by; {
	case place >= width:
		return 0, false
	case op == 96:
		return place - by, place >= by
	case from < width:
		return from, true
	case op == 192:
		return width - 1, true
	}
	return 0, false
}

// moved answers n shifted, place by place.
func moved(op int, n uint64, by, width int) uint64 {
	answer := uint64(0)
	for place := range 64 {
		if from, ok := source(op, place, by, width); ok {
			answer |= n >> from & 1 << place
		}
	}
	return answer
}

// 15.3: each op by all counts, of tnums at the edges and of others, is what goes place by place; past the counts it is ErrArg.
func TestShiftEachCount(t *testing.T) {
	l := edges()
	draw := draws()
	for range 100 {
		l = append(l, drawn(draw))
	}
	for _, op := range shiftOps {
		for _, a := range l {
			for by := range 64 {
				checkShift(t, []shiftCase{{op, a, by, true, api.Tnum{Value: moved(op, a.Value, by, 64), Mask: moved(op, a.Mask, by, 64)}}})
				if by < 32 {
					checkShift(t, []shiftCase{{op, a, by, false, api.Tnum{Value: moved(op, a.Value, by, 32), Mask: moved(op, a.Mask, by, 32)}}})
					continue
				}
				got, err := tnum.Shift(op, a, by, false)
				wantArg(t, got, err, "Shift(%d, {%#x, %#x}, %d, false)", op, a.Value, a.Mask, by)
			}
		}
	}
}

// 15.3, R2: ErrArg by a count that may not be, and nothing beside it.
func TestShiftRefusesCounts(t *testing.T) {
	for _, by := range []int{-1, -2, -31, -32, -63, -64, 64, 65, 95, 96, 127, 128, 255, 256, 256 + 5, 1 << 16, 1 << 32, 1<<32 + 5, -1 << 32, -1<<32 + 5, math.MinInt, math.MinInt + 5, math.MaxInt, math.MaxInt - 63} {
		for _, op := range shiftOps {
			for _, a := range edges() {
				for _, wide := range []bool{true, false} {
					got, err := tnum.Shift(op, a, by, wide)
					wantArg(t, got, err, "Shift(%d, {%#x, %#x}, %d, %v)", op, a.Value, a.Mask, by, wide)
				}
			}
		}
	}
}

// 15.3, R2: ErrArg for every other op, by counts that may be and by others.
func TestShiftRefusesOps(t *testing.T) {
	wrong := []int{math.MinInt, math.MinInt + 96, math.MaxInt, math.MaxInt - 15, 1 << 32, 1<<32 + 96, 1<<62 + 112}
	for op := -600; op <= 600; op++ {
		if op != 96 && op != 112 && op != 192 {
			wrong = append(wrong, op)
		}
	}
	for _, op := range wrong {
		for _, a := range []api.Tnum{{}, {Value: 5, Mask: 2}, {Value: all}, {Mask: all}} {
			for _, by := range []int{-1, 0, 1, 31, 32, 63, 64} {
				for _, wide := range []bool{true, false} {
					got, err := tnum.Shift(op, a, by, wide)
					wantArg(t, got, err, "Shift(%d, {%#x, %#x}, %d, %v)", op, a.Value, a.Mask, by, wide)
				}
			}
		}
	}
}

// 15.3: Cast cuts both to 8, 16 and 32 bits.
func TestCast(t *testing.T) {
	known, unknown := api.Tnum{Value: 0x8091A2B3C4D5E6F7, Mask: 0x7060504030201008}, api.Tnum{Mask: all}
	for _, c := range []struct {
		a    api.Tnum
		bits int
		due  api.Tnum
	}{
		{known, 8, api.Tnum{Value: 0xF7, Mask: 0x08}},
		{known, 16, api.Tnum{Value: 0xE6F7, Mask: 0x1008}},
		{known, 32, api.Tnum{Value: 0xC4D5E6F7, Mask: 0x30201008}},
		{unknown, 8, api.Tnum{Mask: 0xFF}},
		{unknown, 16, api.Tnum{Mask: 0xFFFF}},
		{unknown, 32, api.Tnum{Mask: 0xFFFFFFFF}},
		{api.Tnum{Value: all}, 8, api.Tnum{Value: 0xFF}},
		{api.Tnum{Value: all}, 16, api.Tnum{Value: 0xFFFF}},
		{api.Tnum{Value: all}, 32, api.Tnum{Value: 0xFFFFFFFF}},
		{api.Tnum{Value: 128, Mask: 256}, 8, api.Tnum{Value: 128}},
		{api.Tnum{Value: 256, Mask: 128}, 8, api.Tnum{Mask: 128}},
		{api.Tnum{Value: 1 << 15, Mask: 1 << 16}, 16, api.Tnum{Value: 1 << 15}},
		{api.Tnum{Value: 1 << 16, Mask: 1 << 15}, 16, api.Tnum{Mask: 1 << 15}},
		{api.Tnum{Value: 1 << 31, Mask: 1 << 32}, 32, api.Tnum{Value: 1 << 31}},
		{api.Tnum{Value: 1 << 32, Mask: 1 << 31}, 32, api.Tnum{Mask: 1 << 31}},
		{api.Tnum{}, 8, api.Tnum{}},
	} {
		want(t, tnum.Cast(c.a, c.bits), c.due, "Cast({%#x, %#x}, %d)", c.a.Value, c.a.Mask, c.bits)
	}
}

// 15.3: Cast to another number of bits leaves a tnum as it is.
func TestCastAsItIs(t *testing.T) {
	counts := []int{math.MinInt, math.MinInt + 8, math.MaxInt, math.MaxInt - 31, 1<<32 + 8, 1 << 32, -1<<32 + 16, 1<<16 + 16}
	for bits := -300; bits <= 300; bits++ {
		if bits != 8 && bits != 16 && bits != 32 {
			counts = append(counts, bits)
		}
	}
	for _, a := range edges() {
		for _, bits := range counts {
			want(t, tnum.Cast(a, bits), a, "Cast({%#x, %#x}, %d)", a.Value, a.Mask, bits)
		}
	}
}
