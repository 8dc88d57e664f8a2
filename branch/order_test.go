package branch_test

import "testing"

// Below and at most are told by the cases of above and at least, the other way round.
var (
	above   = kin{op: 32, turned: 160, signed: 96, signedTurned: 192}
	atLeast = kin{op: 48, turned: 176, signed: 112, signedTurned: 208}
)

// 17.2, above: constants on either side.
func TestAboveConst(t *testing.T) {
	byte8, some := unknown(8), from(3, 9)
	above.check(t, []told{
		{byte8, one(7), from(8, 255), one(7)}, {byte8, one(0), from(1, 255), one(0)}, {byte8, one(254), one(255), one(254)}, {byte8, one(127), from(128, 255), one(127)},
		{some, one(2), some, one(2)}, {some, one(3), from(4, 9), one(3)}, {some, one(8), one(9), one(8)}, {some, one(0), some, one(0)},
		{one(5), byte8, one(5), from(0, 4)}, {one(1), byte8, one(1), one(0)}, {one(256), byte8, one(256), byte8}, {one(255), byte8, one(255), from(0, 254)},
		{one(10), some, one(10), some}, {one(9), some, one(9), from(3, 8)}, {one(4), some, one(4), one(3)},
		{one(5), one(4), one(5), one(4)}, {one(1), one(0), one(1), one(0)}, {one(all), one(0), one(all), one(0)}, {one(all), one(all - 1), one(all), one(all - 1)},
		{unknown(64), one(all - 1), one(all), one(all - 1)}, {unknown(64), one(top - 1), from(top, all), one(top - 1)}, {one(1), unknown(64), one(1), one(0)}, {one(all), unknown(64), one(all), from(0, all-1)},
	})
	above.refuses(t, []never{
		{byte8, one(255)}, {byte8, one(256)}, {byte8, one(all)}, {some, one(9)}, {some, one(10)}, {one(3), some}, {one(2), some}, {one(0), byte8},
		{one(5), one(5)}, {one(5), one(6)}, {one(0), one(0)}, {one(0), one(1)}, {one(top), one(top)}, {one(all), one(all)}, {one(0), one(all)},
	})
}

// 17.2, above: bounds that part, that touch at one number, that lap over.
func TestAbove(t *testing.T) {
	above.check(t, []told{
		{from(8, 15), from(0, 7), from(8, 15), from(0, 7)},
		{from(8, 15), from(0, 8), from(8, 15), from(0, 8)},
		{from(3, 9), from(8, 12), one(9), one(8)},
		{from(3, 10), from(8, 12), from(9, 10), from(8, 9)},
		{from(3, 9), from(5, 12), from(6, 9), from(5, 8)},
		{from(5, 12), from(3, 9), from(5, 12), from(3, 9)},
		{from(5, 12), from(3, 12), from(5, 12), from(3, 11)},
		{from(5, 12), from(5, 11), from(6, 12), from(5, 11)},
		{from(1, 14), from(6, 9), from(7, 14), from(6, 9)},
		{from(6, 9), from(1, 14), from(6, 9), from(1, 8)},
		{unknown(8), unknown(8), from(1, 255), from(0, 254)},
		{unknown(64), unknown(64), from(1, all), from(0, all-1)},
		{from(top-5, top+5), from(top-1, top+9), from(top, top+5), from(top-1, top+4)},
	})
	above.refuses(t, []never{
		{from(0, 7), from(8, 15)}, {from(0, 7), from(7, 15)}, {from(3, 8), from(8, 12)}, {from(3, 8), from(9, 12)}, {unknown(63), from(top-1, top+1)}, {from(3, 8), from(top, all)},
	})
}

// 17.2, above: at the ends of all numbers.
func TestAboveEnds(t *testing.T) {
	above.check(t, []told{
		{unknown(64), from(all-1, all), one(all), one(all - 1)},
		{unknown(64), from(1, all), from(2, all), from(1, all-1)},
		{from(0, 1), unknown(64), one(1), one(0)},
		{from(0, 1), from(0, 1), one(1), one(0)},
		{from(all-1, all), from(all-1, all), one(all), one(all - 1)},
	})
	above.refuses(t, []never{{unknown(64), one(all)}, {one(all), one(all)}, {one(0), unknown(64)}, {one(0), one(0)}, {one(0), one(all)}, {one(0), from(0, 1)}, {from(all-1, all), one(all)}})
}

// 17.2, above: what a Tnum makes of a bound that was raised or lowered; false, if Tight is.
func TestAboveTight(t *testing.T) {
	some, evens := is(0, 10, 0, 10), is(0, 14, 0, 14)
	above.check(t, []told{
		{some, one(7), is(8, 2, 8, 10), one(7)},
		{some, one(2), is(0, 10, 3, 10), one(2)},
		{some, one(8), is(8, 2, 9, 10), one(8)},
		{one(2), some, one(2), one(0)},
		{one(3), some, one(3), is(0, 2, 0, 2)},
		{is(0, 12, 0, 12), one(4), is(0, 12, 5, 12), one(4)},
		{evens, one(7), is(8, 6, 8, 14), one(7)},
		{evens, one(8), is(8, 6, 9, 14), one(8)},
		{one(7), evens, one(7), is(0, 6, 0, 6)},
		{one(8), evens, one(8), is(0, 6, 0, 6)},
		{is(0, top+2, 0, top+2), one(2), is(0, top+2, 3, top+2), one(2)},
		{is(0, top+2, 0, top+2), one(top - 1), is(top, 2, top, top+2), one(top - 1)},
		{from(2, 12), is(1, 10, 2, 11), from(3, 12), is(1, 10, 2, 11)},
		// What Tight makes of a's Max, or of b's Min, tells nothing more of the other one.
		{is(0, 10, 0, 9), from(7, 15), one(8), from(7, 8)},
		{from(2, 8), is(1, 6, 2, 7), from(3, 8), is(1, 6, 2, 7)},
	})
	above.refuses(t, []never{{is(0, 10, 0, 9), one(8)}, {one(3), is(1, 10, 2, 9)}, {is(4, 8, 5, 8), one(7)}})
}

// 17.2, at least: constants on either side.
func TestAtLeastConst(t *testing.T) {
	byte8, some := unknown(8), from(3, 9)
	atLeast.check(t, []told{
		{byte8, one(7), from(7, 255), one(7)}, {byte8, one(0), byte8, one(0)}, {byte8, one(1), from(1, 255), one(1)}, {byte8, one(255), one(255), one(255)}, {byte8, one(128), from(128, 255), one(128)},
		{some, one(2), some, one(2)}, {some, one(3), some, one(3)}, {some, one(4), from(4, 9), one(4)}, {some, one(9), one(9), one(9)},
		{one(5), byte8, one(5), from(0, 5)}, {one(1), byte8, one(1), from(0, 1)}, {one(0), byte8, one(0), one(0)}, {one(255), byte8, one(255), byte8}, {one(254), byte8, one(254), from(0, 254)},
		{one(9), some, one(9), some}, {one(8), some, one(8), from(3, 8)}, {one(3), some, one(3), one(3)},
		{one(5), one(5), one(5), one(5)}, {one(5), one(4), one(5), one(4)}, {one(all), one(0), one(all), one(0)},
	})
	atLeast.refuses(t, []never{
		{byte8, one(256)}, {byte8, one(all)}, {some, one(10)}, {one(2), some}, {one(0), some}, {one(5), one(6)}, {one(0), one(1)}, {one(0), one(all)}, {one(all - 1), one(all)},
	})
}

// 17.2, at least: bounds that part, that touch at one number, that lap over.
func TestAtLeast(t *testing.T) {
	atLeast.check(t, []told{
		{from(8, 15), from(0, 7), from(8, 15), from(0, 7)},
		{from(8, 12), from(3, 8), from(8, 12), from(3, 8)},
		{from(3, 8), from(8, 12), one(8), one(8)},
		{from(3, 9), from(8, 12), from(8, 9), from(8, 9)},
		{from(3, 9), from(5, 12), from(5, 9), from(5, 9)},
		{from(5, 12), from(3, 9), from(5, 12), from(3, 9)},
		{from(5, 12), from(3, 12), from(5, 12), from(3, 12)},
		{from(5, 12), from(3, 13), from(5, 12), from(3, 12)},
		{from(5, 12), from(6, 12), from(6, 12), from(6, 12)},
		{from(1, 14), from(6, 9), from(6, 14), from(6, 9)},
		{from(6, 9), from(1, 14), from(6, 9), from(1, 9)},
		{unknown(8), unknown(8), unknown(8), unknown(8)},
		{unknown(64), unknown(64), unknown(64), unknown(64)},
		{from(top-5, top+5), from(top-1, top+9), from(top-1, top+5), from(top-1, top+5)},
	})
	atLeast.refuses(t, []never{
		{from(0, 7), from(8, 15)}, {from(3, 8), from(9, 12)}, {from(0, 6), from(8, 15)}, {unknown(63), from(top, top+1)}, {from(3, 8), from(top, all)},
	})
}

// 17.2, at least: at the ends of all numbers it may be true.
func TestAtLeastEnds(t *testing.T) {
	atLeast.check(t, []told{
		{unknown(64), one(all), one(all), one(all)},
		{from(all-1, all), one(all), one(all), one(all)},
		{one(all), one(all), one(all), one(all)},
		{one(all), unknown(64), one(all), unknown(64)},
		{one(0), unknown(64), one(0), one(0)},
		{one(0), from(0, 1), one(0), one(0)},
		{one(0), one(0), one(0), one(0)},
		{unknown(64), one(0), unknown(64), one(0)},
		{unknown(64), one(top), from(top, all), one(top)},
	})
}

// 17.2, at least: what a Tnum makes of a bound that was raised or lowered; false, if Tight is.
func TestAtLeastTight(t *testing.T) {
	some, evens := is(0, 10, 0, 10), is(0, 14, 0, 14)
	atLeast.check(t, []told{
		{some, one(8), is(8, 2, 8, 10), one(8)},
		{some, one(3), is(0, 10, 3, 10), one(3)},
		{some, one(9), is(8, 2, 9, 10), one(9)},
		{one(1), some, one(1), one(0)},
		{one(2), some, one(2), is(0, 2, 0, 2)},
		{evens, one(8), is(8, 6, 8, 14), one(8)},
		{one(7), evens, one(7), is(0, 6, 0, 6)},
		{is(0, top+2, 0, top+2), one(top), is(top, 2, top, top+2), one(top)},
		// What Tight makes of a's Max tells nothing more of b.
		{is(0, 10, 0, 9), from(8, 15), one(8), from(8, 9)},
	})
	atLeast.refuses(t, []never{{is(0, 10, 0, 9), one(9)}, {one(2), is(1, 10, 2, 9)}, {is(4, 8, 5, 8), one(8)}})
}

// 17.2: below and at most, and the signed ones, in numbers of their own.
func TestOrderByOp(t *testing.T) {
	byte8, some := unknown(8), from(3, 9)
	for _, wide := range []bool{true, false} {
		for _, below := range []int{160, 192} {
			wantRefine(t, below, wide, byte8, one(7), from(0, 6), one(7), true)
			wantRefine(t, below, wide, one(7), byte8, one(7), from(8, 255), true)
			wantRefine(t, below, wide, some, from(2, 6), from(3, 5), from(4, 6), true)
			wantNever(t, below, wide, byte8, one(0))
			wantNever(t, below, wide, one(255), byte8)
		}
		for _, most := range []int{176, 208} {
			wantRefine(t, most, wide, byte8, one(7), from(0, 7), one(7), true)
			wantRefine(t, most, wide, one(7), byte8, one(7), from(7, 255), true)
			wantRefine(t, most, wide, some, from(2, 6), from(3, 6), from(3, 6), true)
			wantRefine(t, most, wide, byte8, one(0), one(0), one(0), true)
			wantNever(t, most, wide, one(256), byte8)
		}
		wantRefine(t, 96, wide, byte8, one(7), from(8, 255), one(7), true)
		wantRefine(t, 112, wide, byte8, one(7), from(7, 255), one(7), true)
		wantNever(t, 96, wide, byte8, one(255))
		wantNever(t, 112, wide, byte8, one(256))
	}
	wantNever(t, 160, true, one(all), unknown(64))
	wantNever(t, 160, true, unknown(64), one(0))
	wantRefine(t, 176, true, one(all), unknown(64), one(all), one(all), true)
	wantRefine(t, 176, true, unknown(64), one(0), one(0), one(0), true)
}
