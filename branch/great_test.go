package branch_test

import (
	"testing"

	"portcullis/api"
	"portcullis/branch"
)

// great is a test, and two of which it tells something: numbers up to 2^k - 1 on one side, which the test is given.
type great struct {
	op int
	// What the test tells, of numbers up to 2^k - 1 as a, or as b.
	asFirst, asSecond func(k int) (told, bool)
}

// most answers 2^k - 1.
func most(k int) uint64 { return 1<<k - 1 }

// greats answers, for each op, what it tells of great numbers on either side.
func greats() []great {
	yes := func(a, b, first, second api.Scalar) (told, bool) { return told{a, b, first, second}, true }
	no := func(a, b api.Scalar) (told, bool) { return told{a: a, b: b}, false }
	equal := great{16,
		func(k int) (told, bool) { return yes(unknown(k), one(5), one(5), one(5)) },
		func(k int) (told, bool) { return yes(one(5), unknown(k), one(5), one(5)) }}
	notEqual := great{80,
		func(k int) (told, bool) { return yes(unknown(k), one(0), from(1, most(k)), one(0)) },
		func(k int) (told, bool) { return yes(one(0), unknown(k), one(0), from(1, most(k))) }}
	share := great{64,
		func(k int) (told, bool) { return yes(unknown(k), one(4), is(4, most(k)-4, 4, most(k)), one(4)) },
		func(k int) (told, bool) { return no(one(0), unknown(k)) }}
	shareNone := great{68,
		func(k int) (told, bool) { return yes(unknown(k), one(4), is(0, most(k)-4, 0, most(k)-4), one(4)) },
		func(k int) (told, bool) { return no(one(4), is(4, most(k)-4, 4, most(k))) }}
	l := []great{equal, notEqual, share, shareNone}
	for _, op := range []int{32, 96} {
		l = append(l, great{op,
			func(k int) (told, bool) { return yes(unknown(k), one(5), from(6, most(k)), one(5)) },
			func(k int) (told, bool) { return yes(one(5), unknown(k), one(5), from(0, 4)) }})
	}
	for _, op := range []int{48, 112} {
		l = append(l, great{op,
			func(k int) (told, bool) { return yes(unknown(k), one(5), from(5, most(k)), one(5)) },
			func(k int) (told, bool) { return yes(one(5), unknown(k), one(5), from(0, 5)) }})
	}
	for _, op := range []int{160, 192} {
		l = append(l, great{op,
			func(k int) (told, bool) { return yes(unknown(k), one(5), from(0, 4), one(5)) },
			func(k int) (told, bool) { return yes(one(5), unknown(k), one(5), from(6, most(k))) }})
	}
	for _, op := range []int{176, 208} {
		l = append(l, great{op,
			func(k int) (told, bool) { return yes(unknown(k), one(5), from(0, 5), one(5)) },
			func(k int) (told, bool) { return yes(one(5), unknown(k), one(5), from(5, most(k))) }})
	}
	return l
}

// told looks whether numbers up to 2^k - 1, on either side alone, are looked at.
func (g great) told(t *testing.T, wide bool, k int) {
	t.Helper()
	for _, side := range []func(int) (told, bool){g.asFirst, g.asSecond} {
		c, may := side(k)
		mayBe(t, c.a)
		mayBe(t, c.b)
		wantRefine(t, g.op, wide, c.a, c.b, c.first, c.second, may)
	}
}

// untold looks whether a greatest number of 2^k, on either side alone or on both, is not; the least one doesn't matter.
func (g great) untold(t *testing.T, wide bool, k int) {
	t.Helper()
	n := most(k) + 1
	l := []api.Scalar{one(n), from(0, n), from(n-1, n), from(1, n+5), unknown(k + 1), from(n, most(k+1)), is(4, most(k+1)-4, 4, n+4), unknown(64), one(all)}
	for _, far := range l {
		mayBe(t, far)
		for _, s := range append(l, one(0), one(4), one(5), unknown(8), from(n-2, n-1), one(n-1)) {
			wantSame(t, g.op, wide, far, s)
			wantSame(t, g.op, wide, s, far)
		}
	}
}

// signed tells whether an op is one of signed numbers.
func signed(op int) bool { return op == 96 || op == 112 || op == 192 || op == 208 }

// 17.2: not wide: numbers below 2^32 are looked at, and from 2^32 on nothing is told, of no op.
func TestNotWide(t *testing.T) {
	for _, g := range greats() {
		if !signed(g.op) {
			g.told(t, false, 31)
			g.told(t, false, 32)
		}
		g.untold(t, false, 32)
		g.untold(t, false, 33)
		g.untold(t, false, 62)
		g.untold(t, false, 63)
	}
}

// 17.2: signed: numbers below 2^63 (not wide: 2^31) are looked at, and from there on nothing is told.
func TestSigned(t *testing.T) {
	for _, g := range greats() {
		if !signed(g.op) {
			continue
		}
		for _, k := range []int{8, 31, 32, 33, 62, 63} {
			g.told(t, true, k)
		}
		g.untold(t, true, 63)
		g.told(t, false, 8)
		g.told(t, false, 30)
		g.told(t, false, 31)
		g.untold(t, false, 31)
		g.untold(t, false, 32)
	}
}

// 17.2: an op without signs is not held back there, nor, if wide, anywhere.
func TestWithoutSigns(t *testing.T) {
	for _, g := range greats() {
		if signed(g.op) {
			continue
		}
		for _, k := range []int{8, 31, 32, 33, 62, 63, 64} {
			g.told(t, true, k)
		}
		for _, far := range []uint64{top32, top32 + 5, low32} {
			c, _ := g.asFirst(8)
			a := from(0, far)
			x, _, may := branch.Refine(g.op, false, a, c.b)
			if x == a || !may {
				t.Errorf("Refine(%d, 32 bits, %#x, %#x): %#x, %v; want something told", g.op, a, c.b, x, may)
			}
		}
		for _, far := range []uint64{top, top + 5, all} {
			c, _ := g.asFirst(8)
			a := from(0, far)
			x, _, may := branch.Refine(g.op, true, a, c.b)
			if x == a || !may {
				t.Errorf("Refine(%d, wide, %#x, %#x): %#x, %v; want something told", g.op, a, c.b, x, may)
			}
		}
	}
}

// 17.2: too great numbers may do what the whole ones would not: their lower halves, and their signs, play another part.
func TestGreatMay(t *testing.T) {
	wantSame(t, 16, false, one(1<<32), one(0))
	wantSame(t, 16, false, one(1<<32+5), one(5))
	wantSame(t, 80, false, one(1<<32), one(1<<32))
	wantSame(t, 32, false, one(0), one(1<<32))
	wantSame(t, 64, false, one(1<<32), one(0))
	wantSame(t, 68, false, one(1<<32), one(1<<32))
	wantSame(t, 96, true, one(5), one(all))
	wantSame(t, 112, true, one(5), one(top))
	wantSame(t, 192, true, one(all), one(5))
	wantSame(t, 208, true, one(top), one(5))
	wantSame(t, 96, false, one(5), one(low32))
	wantSame(t, 112, false, one(5), one(top32))
	wantSame(t, 192, false, one(low32), one(5))
	wantSame(t, 208, false, one(top32), one(5))
}

// 17.2: what is no op tells nothing, of whatever numbers.
func TestRefineOfOthers(t *testing.T) {
	l := []api.Scalar{one(0), one(5), one(all), one(1 << 32), unknown(8), unknown(64), from(3, 9), from(top, all), is(1, 4, 2, 4)}
	for _, op := range noOps() {
		for _, a := range l {
			for _, b := range l {
				wantSame(t, op, true, a, b)
				wantSame(t, op, false, a, b)
			}
		}
	}
}
