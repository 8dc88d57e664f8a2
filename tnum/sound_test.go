package tnum_test

import (
	"math/bits"
	"testing"

	"portcullis/alu"
	"portcullis/api"
	"portcullis/tnum"
)

// 15.4, T8: whatever numbers a and b stand for, what alu makes of them is one of Bin's answer; and but for times no tnum with fewer unknown bits has them all.
func TestBinSound(t *testing.T) {
	for _, op := range binOps {
		for _, l := range families() {
			for _, a := range l {
				for _, b := range l {
					soundBin(t, op, a, b)
				}
				if t.Failed() {
					return
				}
			}
		}
	}
}

// soundBin looks at Bin of one pair.
func soundBin(t *testing.T, op int, a, b api.Tnum) {
	t.Helper()
	got, err := tnum.Bin(op, a, b)
	var made []uint64
	for _, x := range numbers(a) {
		for _, y := range numbers(b) {
			n, _ := alu.Bin(op, true, false, x, y)
			made = append(made, n)
			if !has(got, n) || err != api.OK {
				t.Errorf("Bin(%d, {%#x, %#x}, {%#x, %#x}): {%#x, %#x}, error %d, without %#x", op, a.Value, a.Mask, b.Value, b.Mask, got.Value, got.Mask, err, n)
			}
		}
	}
	if op != 32 {
		want(t, got, tightest(made), "Bin(%d, {%#x, %#x}, {%#x, %#x})", op, a.Value, a.Mask, b.Value, b.Mask)
	}
}

// few answers a tnum of at most five unknown bits.
func few(draw func() uint64) api.Tnum {
	mask := uint64(0)
	for range draw() % 6 {
		mask |= 1 << (draw() % 64)
	}
	value := draw() >> (draw() % 64)
	if draw()%3 == 0 {
		value = ^value
	}
	return api.Tnum{Value: value &^ mask, Mask: mask}
}

// 15.4, T8: likewise of tnums whose few unknown bits stand anywhere.
func TestBinSoundDrawn(t *testing.T) {
	draw := draws()
	for range 700 {
		a, b := few(draw), few(draw)
		for _, op := range binOps {
			soundBin(t, op, a, b)
		}
		if t.Failed() {
			return
		}
	}
}

// 15.4, T8: each number shifted, wide and not, is one of Shift's answer, and no tnum with fewer unknown bits has them all.
func TestShiftSound(t *testing.T) {
	for _, op := range shiftOps {
		for _, l := range families() {
			for _, a := range l {
				for by := range 64 {
					soundShift(t, op, a, by, true)
					if by < 32 {
						soundShift(t, op, a, by, false)
					}
				}
				if t.Failed() {
					return
				}
			}
		}
	}
}

// soundShift looks at Shift of one tnum.
func soundShift(t *testing.T, op int, a api.Tnum, by int, wide bool) {
	t.Helper()
	got, err := tnum.Shift(op, a, by, wide)
	var made []uint64
	for _, x := range numbers(a) {
		n, _ := alu.Bin(op, wide, false, x, uint64(by))
		made = append(made, n)
		if !has(got, n) {
			t.Errorf("Shift(%d, {%#x, %#x}, %d, %v): {%#x, %#x}, without %#x", op, a.Value, a.Mask, by, wide, got.Value, got.Mask, n)
		}
	}
	wantOK(t, got, err, tightest(made), "Shift(%d, {%#x, %#x}, %d, %v)", op, a.Value, a.Mask, by, wide)
}

// 15.4, T8: each number that is cut is one of Cast's answer, and no tnum with fewer unknown bits has them all.
func TestCastSound(t *testing.T) {
	for _, l := range families() {
		for _, a := range l {
			for _, width := range []int{8, 16, 32} {
				got := tnum.Cast(a, width)
				var made []uint64
				for _, x := range numbers(a) {
					n := x & (1<<width - 1)
					if cut, err := alu.Cut(x, width); err == api.OK && cut != n {
						t.Fatalf("alu.Cut(%#x, %d): %#x", x, width, cut)
					}
					made = append(made, n)
					if !has(got, n) {
						t.Errorf("Cast({%#x, %#x}, %d): {%#x, %#x}, without %#x", a.Value, a.Mask, width, got.Value, got.Mask, n)
					}
				}
				want(t, got, tightest(made), "Cast({%#x, %#x}, %d)", a.Value, a.Mask, width)
			}
		}
	}
}

// 15.4: Meet has just the numbers of both, and is false just where there is none.
func TestMeetHasJustBoth(t *testing.T) {
	for _, l := range families() {
		for _, a := range l {
			for _, b := range l {
				var both []uint64
				for _, n := range numbers(a) {
					if has(b, n) {
						both = append(both, n)
					}
				}
				if len(both) == 0 {
					wantMeet(t, a, b, api.Tnum{}, false)
					continue
				}
				due := tightest(both)
				if 1<<bits.OnesCount64(due.Mask) != len(both) {
					t.Fatalf("{%#x, %#x} and {%#x, %#x}: {%#x, %#x} has more than both", a.Value, a.Mask, b.Value, b.Mask, due.Value, due.Mask)
				}
				wantMeet(t, a, b, due, true)
			}
		}
	}
}

// 15.4: Join has the numbers of each, and no tnum with fewer unknown bits has them all.
func TestJoinHasEach(t *testing.T) {
	for _, l := range families() {
		for _, a := range l {
			for _, b := range l {
				got, each := tnum.Join(a, b), append(numbers(a), numbers(b)...)
				for _, n := range each {
					wantHas(t, got, n, true)
				}
				if !tnum.In(got, a) || !tnum.In(got, b) {
					t.Errorf("Join({%#x, %#x}, {%#x, %#x}): one of them is not in it", a.Value, a.Mask, b.Value, b.Mask)
				}
				wantJoin(t, a, b, tightest(each))
			}
		}
	}
}

// 15.4: Of has each number from min to max.
func TestOfHasEach(t *testing.T) {
	for _, first := range []uint64{0, 200, low32 - 20, top - 20, all - 40, 0x0123456789ABCDEF} {
		for min := first; min < first+40; min++ {
			for max := min; max < first+40; max++ {
				got := tnum.Of(min, max)
				for n := min; n <= max; n++ {
					wantHas(t, got, n, true)
				}
				if c := bits.Len64(got.Mask); got.Mask != 1<<c-1 || c > 0 && min>>(c-1) == max>>(c-1) {
					t.Errorf("Of(%#x, %#x): {%#x, %#x}", min, max, got.Value, got.Mask)
				}
			}
		}
	}
}

// R1: no call panics, and each ends, also of tnums whose Value and Mask share bits, of whom nothing else is promised.
func TestNonePanics(t *testing.T) {
	l := append(edges(), api.Tnum{Value: all, Mask: all}, api.Tnum{Value: 1, Mask: 1}, api.Tnum{Value: top + 1, Mask: top + 3}, api.Tnum{Value: low32, Mask: all})
	for _, a := range l {
		for _, b := range l {
			for op := -1; op <= 256; op++ {
				tnum.Bin(op, a, b)
			}
			tnum.Meet(a, b)
			tnum.Join(a, b)
			tnum.In(a, b)
		}
		for _, n := range []int{-1 << 63, -1, 0, 1, 8, 31, 32, 63, 64, 1<<63 - 1} {
			for op := -1; op <= 256; op++ {
				tnum.Shift(op, a, n, true)
				tnum.Shift(op, a, n, false)
			}
			tnum.Cast(a, n)
		}
	}
}
