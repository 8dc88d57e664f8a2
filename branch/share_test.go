package branch_test

import "testing"

var (
	share     = kin{op: 64}
	shareNone = kin{op: 68}
)

// 17.2, a shared bit: b is a power of two, of which a's bit isn't known, or is known as 1.
func TestShareBit(t *testing.T) {
	byte8, some := unknown(8), is(8, 7, 8, 15)
	share.check(t, []told{
		{byte8, one(128), is(128, 127, 128, 255), one(128)}, {byte8, one(1), is(1, 254, 1, 255), one(1)}, {byte8, one(4), is(4, 251, 4, 255), one(4)},
		{unknown(64), one(1), is(1, all-1, 1, all), one(1)}, {unknown(64), one(top), from(top, all), one(top)}, {unknown(64), one(1 << 62), is(1<<62, all-1<<62, 1<<62, all), one(1 << 62)},
		{unknown(64), one(top32), is(top32, all-top32, top32, all), one(top32)}, {unknown(64), one(1 << 32), is(1<<32, all-1<<32, 1<<32, all), one(1 << 32)}, {unknown(32), one(top32), from(top32, low32), one(top32)},
		{some, one(4), is(12, 3, 12, 15), one(4)}, {some, one(1), is(9, 6, 9, 15), one(1)}, {is(1, 6, 1, 7), one(2), is(3, 4, 3, 7), one(2)},
		{from(0, 1), one(1), one(1), one(1)}, {is(0, top, 0, top), one(top), one(top), one(top)}, {is(7, top, 7, top+7), one(top), one(top + 7), one(top)},
		// Known as 1.
		{some, one(8), some, one(8)}, {one(12), one(4), one(12), one(4)}, {one(4), one(4), one(4), one(4)}, {one(all), one(top), one(all), one(top)}, {is(top, 7, top, top+7), one(top), is(top, 7, top, top+7), one(top)}, {one(1), one(1), one(1), one(1)},
		// What the bit makes of a's bounds.
		{from(3, 9), one(8), from(8, 9), one(8)}, {from(1, 8), one(8), one(8), one(8)}, {from(7, 8), one(4), is(4, 11, 7, 8), one(4)}, {is(0, 12, 3, 8), one(4), is(4, 8, 4, 8), one(4)}, {is(0, 12, 3, 8), one(8), one(8), one(8)},
	})
}

// 17.2, a shared bit: b has several bits, or isn't one number: nothing more is told; nor is anything of b, whatever a is.
func TestShareSome(t *testing.T) {
	byte8, some := unknown(8), is(8, 7, 8, 15)
	share.check(t, []told{
		{byte8, one(3), byte8, one(3)}, {byte8, one(255), byte8, one(255)}, {byte8, one(384), byte8, one(384)}, {some, one(12), some, one(12)}, {some, one(6), some, one(6)}, {some, one(17), some, one(17)},
		{unknown(64), one(all), unknown(64), one(all)}, {unknown(64), one(top + 1), unknown(64), one(top + 1)}, {unknown(64), one(top - 1), unknown(64), one(top - 1)}, {one(5), one(6), one(5), one(6)}, {one(5), one(5), one(5), one(5)},
		{byte8, byte8, byte8, byte8}, {unknown(64), unknown(64), unknown(64), unknown(64)}, {byte8, from(0, 1), byte8, from(0, 1)}, {some, from(3, 9), some, from(3, 9)}, {some, is(8, 7, 8, 15), some, is(8, 7, 8, 15)}, {byte8, is(0, 4, 0, 4), byte8, is(0, 4, 0, 4)},
		{one(1), from(0, 1), one(1), from(0, 1)}, {one(4), byte8, one(4), byte8}, {one(top), unknown(64), one(top), unknown(64)}, {one(128), byte8, one(128), byte8},
	})
}

// 17.2, a shared bit: false, where no bit may be shared, or the bounds forbid the bit.
func TestShareNever(t *testing.T) {
	byte8 := unknown(8)
	share.refuses(t, []never{
		{byte8, one(256)}, {one(256), byte8}, {byte8, one(0)}, {one(0), byte8}, {unknown(64), one(0)}, {one(0), unknown(64)}, {one(0), one(0)}, {one(0), one(all)},
		{is(0, 14, 0, 14), one(1)}, {is(0, 14, 0, 14), one(17)}, {is(4, 3, 4, 7), one(8)}, {is(0, 12, 0, 12), from(0, 3)}, {from(0, 3), is(0, 12, 0, 12)}, {one(5), one(2)}, {one(5), one(10)}, {one(top), unknown(63)}, {unknown(63), one(top)}, {from(0, 3), is(4, 8, 4, 12)},
		// The bounds forbid it.
		{is(4, 8, 4, 8), one(8)}, {is(4, 8, 5, 8), one(8)}, {is(1<<60, 2<<60, 1<<60, 2<<60), one(2 << 60)},
	})
}

// 17.2, no shared bit: b is one number, of which some bits aren't known in a.
func TestShareNone(t *testing.T) {
	byte8, some := unknown(8), is(8, 7, 8, 15)
	shareNone.check(t, []told{
		{byte8, one(240), from(0, 15), one(240)}, {byte8, one(1), is(0, 254, 0, 254), one(1)}, {byte8, one(128), from(0, 127), one(128)}, {byte8, one(255), one(0), one(255)}, {byte8, one(256), byte8, one(256)}, {byte8, one(384), from(0, 127), one(384)}, {byte8, one(all), one(0), one(all)}, {byte8, one(90), is(0, 165, 0, 165), one(90)},
		{is(0, 12, 0, 12), one(6), is(0, 8, 0, 8), one(6)}, {some, one(6), is(8, 1, 8, 9), one(6)}, {some, one(7), one(8), one(7)}, {some, one(23), one(8), one(23)}, {some, one(16), some, one(16)},
		{unknown(64), one(top), unknown(63), one(top)}, {unknown(64), one(all), one(0), one(all)}, {unknown(64), one(low32), is(0, all-low32, 0, all-low32), one(low32)}, {unknown(64), one(top + 1), is(0, top-2, 0, top-2), one(top + 1)},
		{one(8), one(7), one(8), one(7)}, {one(8), one(all - 8), one(8), one(all - 8)}, {from(0, 1), one(1), one(0), one(1)},
		// b 0.
		{byte8, one(0), byte8, one(0)}, {unknown(64), one(0), unknown(64), one(0)}, {one(5), one(0), one(5), one(0)}, {one(0), one(0), one(0), one(0)}, {some, one(0), some, one(0)},
		// What is left makes something of a's bounds.
		{from(3, 9), one(8), from(3, 7), one(8)}, {from(7, 8), one(8), one(7), one(8)}, {from(7, 8), one(7), is(0, 8, 7, 8), one(7)}, {from(3, 9), one(6), is(0, 9, 3, 9), one(6)},
	})
}

// 17.2, no shared bit: b isn't one number: nothing more is told; nor is anything of b, whatever a is.
func TestShareNoneSome(t *testing.T) {
	byte8, some := unknown(8), is(8, 7, 8, 15)
	shareNone.check(t, []told{
		{byte8, byte8, byte8, byte8}, {unknown(64), unknown(64), unknown(64), unknown(64)}, {byte8, from(0, 1), byte8, from(0, 1)}, {byte8, some, byte8, some}, {some, from(3, 9), some, from(3, 9)}, {some, is(16, 15, 16, 31), some, is(16, 15, 16, 31)}, {some, is(2, 1, 2, 3), some, is(2, 1, 2, 3)},
		{one(1), from(0, 1), one(1), from(0, 1)}, {one(4), byte8, one(4), byte8}, {one(all), byte8, one(all), byte8}, {one(top), unknown(64), one(top), unknown(64)}, {one(0), byte8, one(0), byte8},
	})
}

// 17.2, no shared bit: false, where both have a bit, or the bounds forbid what is left.
func TestShareNoneNever(t *testing.T) {
	some := is(8, 7, 8, 15)
	shareNone.refuses(t, []never{
		{one(5), one(4)}, {one(5), one(5)}, {one(5), one(7)}, {some, one(8)}, {some, one(9)}, {some, one(all)}, {one(8), some}, {some, some}, {some, is(8, 16, 8, 24)}, {is(4, 3, 4, 7), is(4, 8, 4, 12)}, {one(top), one(top)}, {from(top, all), from(top, all)}, {one(all), one(1)},
		// The bounds forbid it.
		{from(9, 12), one(7)}, {from(3, 6), one(6)}, {from(1, all), one(all)}, {from(1, 255), one(255)}, {from(5, 9), one(15)}, {from(top32, top32+9), one(top32)}, {from(top-1, top+1), one(all - 2)},
	})
}
