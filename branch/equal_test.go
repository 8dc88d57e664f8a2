package branch_test

import (
	"testing"

	"portcullis/branch"
)

var (
	equal    = kin{op: 16, turned: 16}
	notEqual = kin{op: 80, turned: 80}
)

// 17.2, equal: a constant on either side.
func TestEqualConst(t *testing.T) {
	byte8, evens := unknown(8), is(0, 14, 0, 14)
	for _, c := range []told{
		{a: byte8, b: one(3)}, {a: byte8, b: one(0)}, {a: byte8, b: one(255)}, {a: from(3, 9), b: one(3)}, {a: from(3, 9), b: one(9)}, {a: from(3, 9), b: one(6)},
		{a: unknown(64), b: one(0)}, {a: unknown(64), b: one(top)}, {a: unknown(64), b: one(all)}, {a: evens, b: one(0)}, {a: evens, b: one(6)}, {a: evens, b: one(14)},
		{a: one(0), b: one(0)}, {a: one(5), b: one(5)}, {a: one(top32), b: one(top32)}, {a: one(all), b: one(all)},
	} {
		equal.check(t, []told{{c.a, c.b, c.b, c.b}, {c.b, c.a, c.b, c.b}})
	}
}

// 17.2, equal: what both share, told of both.
func TestEqual(t *testing.T) {
	evens := is(0, 14, 0, 14)
	for _, c := range []told{
		// Their bounds lap over, or one lies in the other.
		{a: from(3, 9), b: from(5, 12), first: from(5, 9)},
		{a: from(3, 8), b: from(4, 12), first: from(4, 8)},
		{a: from(1, 14), b: from(6, 9), first: from(6, 9)},
		{a: unknown(64), b: from(6, 9), first: from(6, 9)},
		{a: from(top-3, top+5), b: from(top-1, all), first: from(top-1, top+5)},
		// They share just one number: by their bounds, by their Tnums.
		{a: from(3, 8), b: from(8, 12), first: one(8)},
		{a: is(0, 5, 0, 5), b: is(0, 10, 0, 10), first: one(0)},
		{a: is(0, 9, 0, 9), b: is(1, 6, 1, 7), first: one(1)},
		// Their Tnums have some numbers in common.
		{a: evens, b: is(2, 9, 2, 11), first: is(2, 8, 2, 10)},
		{a: is(1, all-1, 1, all), b: unknown(8), first: is(1, 254, 1, 255)},
		{a: unknown(64), b: evens, first: evens},
		// Bounds and Tnums narrow one another.
		{a: from(3, 7), b: from(4, 12), first: from(4, 7)},
		{a: evens, b: from(3, 7), first: is(0, 6, 3, 6)},
		{a: evens, b: from(8, 9), first: one(8)},
		{a: is(1, 10, 1, 11), b: from(2, 4), first: one(3)},
		// What is left need not have a number.
		{a: is(1, 4, 1, 5), b: from(2, 4), first: is(1, 4, 2, 4)},
	} {
		equal.check(t, []told{{c.a, c.b, c.first, c.first}})
	}
}

// 17.2, equal: of one scalar and itself nothing more is told.
func TestEqualItself(t *testing.T) {
	for _, s := range append(mixed(), unknown(8), unknown(64), from(3, 9), is(0, 14, 0, 14), is(1, 4, 2, 4)) {
		equal.check(t, []told{{s, s, s, s}})
	}
}

// 17.2, equal: false, where their Tnums do not meet, or their bounds, or only behind Tight.
func TestEqualNever(t *testing.T) {
	byte8, evens := unknown(8), is(0, 14, 0, 14)
	equal.refuses(t, []never{
		{one(5), one(6)}, {one(0), one(1)}, {one(0), one(all)}, {one(0), one(top)}, {one(top), one(top - 1)},
		// By their Tnums.
		{byte8, one(256)}, {byte8, one(all)}, {evens, is(1, 14, 1, 15)}, {evens, one(7)}, {is(top, 7, top, top+7), unknown(63)}, {from(3, 6), from(8, 12)},
		// By their bounds, one off and farther, though their Tnums meet.
		{from(1, 8), from(9, 15)}, {from(1, 16), from(17, 30)}, {from(3, 9), one(2)}, {from(3, 9), one(10)}, {from(3, 9), one(0)}, {from(3, 9), one(15)},
		{from(top-3, top+5), one(top + 6)}, {from(top-3, top+5), one(top - 4)}, {from(1, all), one(0)}, {from(0, all-1), one(all)},
		// By both together, only behind Tight: no number of both Tnums lies within both bounds.
		{is(0, 10, 0, 10), from(3, 7)}, {is(0, 24, 0, 24), from(17, 23)}, {is(1, 14, 1, 8), from(8, 12)},
	})
}

// 17.2, equal: both answers are the same, whatever they are.
func TestEqualBothTheSame(t *testing.T) {
	draw := draws()
	for range 5000 {
		a, b := drawn(draw), drawn(draw)
		if x, y, _ := branch.Refine(16, true, a, b); x != y {
			t.Fatalf("Refine(16, %#x, %#x): %#x and %#x", a, b, x, y)
		}
	}
}

// 17.2, not equal: b is one number, at a's bounds, between and beyond them.
func TestNotEqualConst(t *testing.T) {
	byte8, some := unknown(8), from(3, 9)
	notEqual.check(t, []told{
		{byte8, one(0), from(1, 255), one(0)}, {byte8, one(255), from(0, 254), one(255)},
		{byte8, one(1), byte8, one(1)}, {byte8, one(254), byte8, one(254)}, {byte8, one(256), byte8, one(256)}, {byte8, one(all), byte8, one(all)},
		{some, one(3), from(4, 9), one(3)}, {some, one(9), from(3, 8), one(9)}, {some, one(6), some, one(6)},
		{some, one(2), some, one(2)}, {some, one(10), some, one(10)}, {some, one(0), some, one(0)}, {some, one(15), some, one(15)},
		{from(0, 3), one(3), from(0, 2), one(3)},
		// 0 and the greatest number.
		{unknown(64), one(0), from(1, all), one(0)}, {unknown(64), one(all), from(0, all-1), one(all)}, {unknown(64), one(1), unknown(64), one(1)}, {unknown(64), one(top), unknown(64), one(top)},
		{unknown(32), one(0), from(1, low32), one(0)}, {unknown(32), one(low32), from(0, low32-1), one(low32)},
	})
}

// 17.2, not equal: a has just c and the next number.
func TestNotEqualTwo(t *testing.T) {
	for _, c := range []uint64{0, 1, 3, 4, 7, 100, top32 - 1, top32, low32 - 1, low32, top - 1, top, all - 1} {
		two := from(c, c+1)
		notEqual.check(t, []told{{two, one(c), one(c + 1), one(c)}, {two, one(c + 1), one(c), one(c + 1)}, {two, one(c + 2), two, one(c + 2)}, {two, one(c - 1), two, one(c - 1)}})
	}
}

// 17.2, not equal: two constants, and none.
func TestNotEqualOther(t *testing.T) {
	edge := []uint64{0, 1, 5, 6, top32, low32, top, all - 1, all}
	for _, m := range edge {
		for _, n := range edge {
			if m != n {
				notEqual.check(t, []told{{one(m), one(n), one(m), one(n)}})
			}
		}
		notEqual.refuses(t, []never{{one(m), one(m)}})
	}
	l := []struct{ a, b uint64 }{{0, 255}, {3, 9}, {9, 12}, {0, 1}, {2, 3}, {0, all}, {top - 1, top + 1}}
	for _, m := range l {
		for _, n := range l {
			a, b := from(m.a, m.b), from(n.a, n.b)
			notEqual.check(t, []told{{a, b, a, b}})
		}
	}
}

// 17.2, not equal: what a Tnum makes of a bound that went, and of one that is none of its numbers; false, if Tight is.
func TestNotEqualTight(t *testing.T) {
	notEqual.check(t, []told{
		{is(4, 3, 4, 6), one(6), is(4, 1, 4, 5), one(6)},
		{from(7, 9), one(7), is(8, 1, 8, 9), one(7)},
		{is(0, 10, 0, 10), one(10), is(0, 10, 0, 9), one(10)},
		{is(0, 10, 0, 10), one(0), is(0, 10, 1, 10), one(0)},
		{is(0, 10, 0, 10), one(2), is(0, 10, 0, 10), one(2)},
		{is(0, 10, 7, 8), one(7), one(8), one(7)},
		{is(0, top, 0, top), one(top), one(0), one(top)},
		{is(0, top, 0, top), one(0), is(0, top, 1, top), one(0)},
		{is(1, 4, 1, 5), one(5), is(1, 4, 1, 4), one(5)},
		{is(1, 4, 1, 4), one(4), one(1), one(4)},
		{is(1, 4, 2, 4), one(2), is(1, 4, 3, 4), one(2)},
	})
	notEqual.refuses(t, []never{{is(1, 4, 2, 4), one(4)}, {is(1, 4, 3, 4), one(3)}, {is(1, 4, 3, 4), one(4)}})
}
