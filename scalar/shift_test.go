package scalar_test

import (
	"testing"

	"portcullis/api"
)

// 16.4: shifted left by c: both bounds, where no bit of Max is lost.
func TestBinLeft(t *testing.T) {
	some := is(0, 15, 3, 9)
	checkPairs(t, 96, true, []pair{
		{some, one(0), some},
		{some, one(1), is(0, 30, 6, 18)},
		{some, one(31), is(0, 15<<31, 3<<31, 9<<31)},
		{some, one(32), is(0, 15<<32, 3<<32, 9<<32)},
		{some, one(59), is(0, 15<<59, 3<<59, 9<<59)},
		{some, one(60), is(0, 15<<60, 3<<60, 9<<60)},
		{some, one(61), is(0, 7<<61, 0, 7<<61)},
		{some, one(63), is(0, top, 0, top)},
		{some, one(64), some},
		{some, one(65), is(0, 30, 6, 18)},
		{some, one(top + 1), is(0, 30, 6, 18)},
		{some, one(all), is(0, top, 0, top)},
		{is(0, 1, 0, 1), one(63), is(0, top, 0, top)},
		{is(0, 3, 1, 2), one(63), is(0, top, 0, top)},
		{unknown(8), one(2), is(0, 1020, 0, 1020)},
		{is(0, top-1, 5, top-1), one(1), is(0, all-1, 10, all-1)},
		{is(0, all, 5, top), one(1), is(0, all-1, 0, all-1)},
		{is(1<<62, 3, 1<<62+1, 1<<62+2), one(1), is(top, 6, top+2, top+4)},
		{is(1<<62, 3, 1<<62+1, 1<<62+2), one(2), is(0, 12, 0, 12)},
		{unknown(64), one(0), unknown(64)},
		{unknown(64), one(63), is(0, top, 0, top)},
	})
	checkPairs(t, 96, false, []pair{
		{some, one(0), some},
		{some, one(1), is(0, 30, 6, 18)},
		{some, one(28), is(0, 15<<28, 3<<28, 9<<28)},
		{some, one(29), is(0, 7<<29, 0, 7<<29)},
		{some, one(31), is(0, top32, 0, top32)},
		{some, one(32), some},
		{some, one(33), is(0, 30, 6, 18)},
		{some, one(63), is(0, top32, 0, top32)},
		{some, one(64), some},
		{some, one(upper + 1), is(0, 30, 6, 18)},
		{is(0, top32-1, 5, top32-1), one(1), is(0, low32-1, 10, low32-1)},
		{is(0, low32, 5, top32), one(1), is(0, low32-1, 0, low32-1)},
		{is(0, low32, 5, top32), one(0), is(0, low32, 5, top32)},
		{is(1<<30, 3, 1<<30+1, 1<<30+2), one(1), is(top32, 6, top32+2, top32+4)},
		{is(1<<30, 3, 1<<30+1, 1<<30+2), one(2), is(0, 12, 0, 12)},
		{unknown(64), one(31), is(0, top32, 0, top32)},
	})
}

// 16.4: shifted right by c: both bounds.
func TestBinRight(t *testing.T) {
	some := is(0, 255, 17, 200)
	checkPairs(t, 112, true, []pair{
		{some, one(0), some}, {some, one(1), is(0, 127, 8, 100)}, {some, one(4), is(0, 15, 1, 12)}, {some, one(5), is(0, 7, 0, 6)}, {some, one(8), one(0)},
		{some, one(31), one(0)}, {some, one(32), one(0)}, {some, one(63), one(0)}, {some, one(64), some}, {some, one(68), is(0, 15, 1, 12)}, {some, one(all), one(0)},
		{unknown(64), one(1), unknown(63)}, {unknown(64), one(32), unknown(32)}, {unknown(64), one(63), unknown(1)}, {unknown(64), one(64), unknown(64)},
		{is(0, all, top-1, top), one(1), is(0, top-1, 1<<62-1, 1<<62)}, {is(top, 7, top+1, top+6), one(1), is(1<<62, 3, 1<<62, 1<<62+3)},
	})
	checkPairs(t, 112, false, []pair{
		{some, one(0), some}, {some, one(1), is(0, 127, 8, 100)}, {some, one(4), is(0, 15, 1, 12)}, {some, one(31), one(0)}, {some, one(32), some}, {some, one(36), is(0, 15, 1, 12)}, {some, one(63), one(0)}, {some, one(64), some},
		{unknown(64), one(1), unknown(31)}, {unknown(64), one(31), unknown(1)}, {unknown(64), one(32), unknown(32)}, {is(upper, 7, upper+1, upper+6), one(1), is(0, 3, 0, 3)},
	})
}

// 16.4: shifted right with the sign by c: as right, where Max has no sign; else what the Tnum tells.
func TestBinRightWithSign(t *testing.T) {
	some := is(0, 255, 17, 200)
	checkPairs(t, 192, true, []pair{
		{some, one(0), some}, {some, one(1), is(0, 127, 8, 100)}, {some, one(4), is(0, 15, 1, 12)}, {some, one(31), one(0)}, {some, one(32), one(0)}, {some, one(63), one(0)}, {some, one(64), some}, {some, one(68), is(0, 15, 1, 12)},
		{is(0, top-1, 16, top-1), one(4), is(0, top>>4-1, 1, top>>4-1)},
		{is(0, all, 16, top), one(4), unknown(64)},
		{is(0, all, 16, top), one(0), unknown(64)},
		{is(0, top-1, 16, top-1), one(0), is(0, top-1, 16, top-1)},
		{is(top, 255, top+3, top+200), one(4), is(0xF8<<56, 15, 0xF8<<56, 0xF8<<56+15)},
		{is(top, 255, top+3, top+200), one(63), one(all)},
		{is(0, low32, 16, low32), one(4), is(0, low32>>4, 1, low32>>4)},
		{is(0, top+1, 0, top+1), one(62), is(0, all-1, 0, all-1)},
		{unknown(64), one(63), unknown(64)}, {unknown(64), one(64), unknown(64)},
	})
	checkPairs(t, 192, false, []pair{
		{some, one(0), some}, {some, one(1), is(0, 127, 8, 100)}, {some, one(4), is(0, 15, 1, 12)}, {some, one(31), one(0)}, {some, one(32), some}, {some, one(36), is(0, 15, 1, 12)}, {some, one(64), some},
		{is(0, top32-1, 16, top32-1), one(4), is(0, top32>>4-1, 1, top32>>4-1)},
		{is(0, low32, 16, top32), one(4), unknown(32)},
		{is(0, low32, 16, top32), one(0), unknown(32)},
		{is(0, top32-1, 16, top32-1), one(0), is(0, top32-1, 16, top32-1)},
		{is(top32, 255, top32+3, top32+200), one(4), is(0xF8<<24, 15, 0xF8<<24, 0xF8<<24+15)},
		{is(top32, 255, top32+3, top32+200), one(31), one(low32)},
		{is(top32, 255, top32+3, top32+200), one(63), one(low32)},
		{unknown(64), one(31), unknown(32)},
	})
}

// 16.4: of a count with unknown bits only a shift to the right tells something: no number above a.Max.
func TestBinShiftsByAny(t *testing.T) {
	for _, count := range []api.Scalar{unknown(64), unknown(8), is(0, 1, 0, 1), is(1, 2, 1, 3), is(64, 1, 64, 65), is(1, 12, 2, 8)} {
		for _, a := range []api.Scalar{is(0, 255, 17, 200), is(1, 254, 17, 200), is(0, 200, 17, 200)} {
			for _, wide := range []bool{true, false} {
				checkPairs(t, 112, wide, []pair{{a, count, is(0, 255, 0, 200)}})
			}
			for _, op := range []int{96, 192} {
				checkPairs(t, op, true, []pair{{a, count, unknown(64)}})
				checkPairs(t, op, false, []pair{{a, count, unknown(32)}})
			}
		}
		for _, n := range []uint64{0, 1, 100, top32, low32, top, all} {
			checkPairs(t, 96, true, []pair{{one(n), count, unknown(64)}})
			checkPairs(t, 96, false, []pair{{one(n), count, unknown(32)}})
			checkPairs(t, 192, true, []pair{{one(n), count, unknown(64)}})
			checkPairs(t, 192, false, []pair{{one(n), count, unknown(32)}})
		}
		checkPairs(t, 112, true, []pair{{one(0), count, one(0)}, {one(100), count, is(0, 127, 0, 100)}, {one(top), count, is(0, all, 0, top)}, {unknown(64), count, unknown(64)}, {one(all), count, unknown(64)}})
		checkPairs(t, 112, false, []pair{{one(0), count, one(0)}, {one(100), count, is(0, 127, 0, 100)}, {one(top), count, one(0)}, {unknown(64), count, unknown(32)}, {one(low32), count, unknown(32)}})
	}
}
