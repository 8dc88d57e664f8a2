package scalar_test

import (
	"testing"

	"portcullis/api"
)

// 16.4: divided by c above 0: both bounds, and no bit of the Tnum.
func TestBinDivided(t *testing.T) {
	some := is(0, 255, 17, 200)
	for _, wide := range []bool{true, false} {
		checkPairs(t, 48, wide, []pair{
			{some, one(1), some},
			{some, one(10), is(0, 31, 1, 20)},
			{some, one(17), is(0, 15, 1, 11)},
			{some, one(18), is(0, 15, 0, 11)},
			{some, one(199), is(0, 1, 0, 1)},
			{some, one(200), is(0, 1, 0, 1)},
			{some, one(201), one(0)},
			{some, one(low32), one(0)},
			{is(1, 10, 3, 9), one(1), is(0, 15, 3, 9)},
			{is(0, 8, 0, 8), one(8), is(0, 1, 0, 1)},
			{is(64, 7, 66, 69), one(16), one(4)},
			{unknown(8), one(10), is(0, 31, 0, 25)},
		})
	}
	checkPairs(t, 48, true, []pair{
		{unknown(64), one(1), unknown(64)}, {unknown(64), one(2), unknown(63)}, {unknown(64), one(all), is(0, 1, 0, 1)}, {unknown(64), one(1 << 32), unknown(32)},
		{is(0, all, 5, all-1), one(all), one(0)}, {is(0, all, 10, all), one(10), is(0, 1<<61-1, 1, all/10)},
	})
	checkPairs(t, 48, false, []pair{
		{unknown(64), one(1), unknown(32)}, {unknown(64), one(2), unknown(31)}, {unknown(64), one(all), is(0, 1, 0, 1)}, {some, one(upper + 10), is(0, 31, 1, 20)},
	})
}

// 16.4: the rest by c above 0: a, where a.Max is below c; else 0 to c - 1.
func TestBinRest(t *testing.T) {
	odd := is(1, 10, 3, 11)
	for _, wide := range []bool{true, false} {
		checkPairs(t, 144, wide, []pair{
			{odd, one(13), odd},
			{odd, one(12), odd},
			{odd, one(11), is(0, 15, 0, 10)},
			{odd, one(10), is(0, 15, 0, 9)},
			{odd, one(4), unknown(2)},
			{odd, one(2), unknown(1)},
			{odd, one(1), one(0)},
			{odd, one(low32), odd},
			{unknown(8), one(10), is(0, 15, 0, 9)},
			{unknown(8), one(300), unknown(8)},
			{unknown(8), one(256), unknown(8)},
			{unknown(8), one(255), is(0, 255, 0, 254)},
		})
	}
	checkPairs(t, 144, true, []pair{{unknown(64), one(all), is(0, all, 0, all-1)}, {unknown(64), one(16), unknown(4)}, {odd, one(all), odd}, {odd, one(upper), odd}, {is(0, all, 5, all-1), one(all), is(0, all, 5, all-1)}})
	checkPairs(t, 144, false, []pair{{unknown(64), one(low32), is(0, low32, 0, low32-1)}, {unknown(64), one(16), unknown(4)}, {odd, one(upper + 4), unknown(2)}, {is(0, low32, 5, low32-1), one(low32), is(0, low32, 5, low32-1)}})
}

// 16.4: by 0, and by what has unknown bits: 0 to a.Max, of both ops.
func TestBinDividedByAny(t *testing.T) {
	for _, op := range []int{48, 144} {
		for _, b := range []api.Scalar{one(0), unknown(64), unknown(8), is(1, 2, 1, 3), is(0, 15, 3, 9), is(64, 7, 66, 69)} {
			for _, wide := range []bool{true, false} {
				checkPairs(t, op, wide, []pair{{is(1, 10, 3, 11), b, is(0, 15, 0, 11)}, {is(64, 7, 66, 69), b, is(0, 127, 0, 69)}, {unknown(8), b, unknown(8)}})
			}
			checkPairs(t, op, true, []pair{{unknown(64), b, unknown(64)}, {is(0, all, 5, all-1), b, is(0, all, 0, all-1)}})
			checkPairs(t, op, false, []pair{{unknown(64), b, unknown(32)}, {is(0, low32, 5, low32-1), b, is(0, low32, 0, low32-1)}})
			if b != one(0) {
				checkPairs(t, op, true, []pair{{one(0), b, one(0)}, {one(77), b, is(0, 127, 0, 77)}, {one(all), b, unknown(64)}})
				checkPairs(t, op, false, []pair{{one(upper), b, one(0)}, {one(77), b, is(0, 127, 0, 77)}, {one(all), b, unknown(32)}})
			}
		}
		checkPairs(t, op, false, []pair{{is(1, 10, 3, 11), one(upper), is(0, 15, 0, 11)}})
	}
}

// 16.4: of signed numbers nothing is known, but where both are one number.
func TestBinDividedSigned(t *testing.T) {
	for _, op := range []int{48, 144} {
		for _, b := range []api.Scalar{one(0), one(1), one(10), one(1000), one(all), unknown(64), unknown(8), is(0, 15, 3, 9)} {
			for _, a := range []api.Scalar{is(1, 10, 3, 11), unknown(8), unknown(64), is(0, 1, 0, 1)} {
				checkBin(t, []binCase{{op, true, true, a, b, unknown(64)}, {op, false, true, a, b, unknown(32)}})
			}
		}
		for _, b := range []api.Scalar{unknown(64), unknown(8), is(0, 15, 3, 9)} {
			for _, n := range []uint64{0, 7, all} {
				checkBin(t, []binCase{{op, true, true, one(n), b, unknown(64)}, {op, false, true, one(n), b, unknown(32)}})
			}
		}
	}
}
