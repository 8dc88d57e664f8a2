package branch_test

import (
	"testing"

	"portcullis/api"
	"portcullis/branch"
)

func wantAlways(t *testing.T, op int, wide bool, a, b api.Scalar, due, known bool) {
	t.Helper()
	if got, ok := branch.Always(op, wide, a, b); got != due || ok != known {
		t.Errorf("Always(%d, wide %v, %#x, %#x): %v, %v; want %v, %v", op, wide, a, b, got, ok, due, known)
	}
}

// always is two of which a test, and its opposite, are known, or not.
type always struct {
	a, b       api.Scalar
	due, known bool
}

// checkAlways looks at each case of a rule, and at its opposite.
func checkAlways(t *testing.T, k kin, cases []always) {
	t.Helper()
	for _, c := range cases {
		mayBe(t, c.a)
		mayBe(t, c.b)
		k.each(c.a, c.b, func(op int, wide, turned bool) {
			t.Helper()
			a, b := c.a, c.b
			if turned {
				a, b = b, a
			}
			wantAlways(t, op, wide, a, b, c.due, c.known)
			wantAlways(t, branch.Not(op), wide, a, b, c.known && !c.due, c.known)
		})
	}
}

// 17.3: equal and not equal: never, always, neither.
func TestAlwaysEqual(t *testing.T) {
	byte8, evens := unknown(8), is(0, 14, 0, 14)
	checkAlways(t, equal, []always{
		{one(5), one(5), true, true}, {one(0), one(0), true, true}, {one(all), one(all), true, true},
		{one(5), one(6), false, true}, {byte8, one(256), false, true}, {evens, one(7), false, true}, {from(3, 9), one(10), false, true}, {from(1, 8), from(9, 15), false, true}, {is(0, 10, 0, 10), from(3, 7), false, true},
		{byte8, one(5), false, false}, {byte8, byte8, false, false}, {unknown(64), unknown(64), false, false}, {from(3, 8), from(8, 12), false, false}, {evens, one(6), false, false}, {from(3, 9), one(3), false, false},
	})
}

// 17.3: above and at most, likewise; with them below and at least, and the signed ones.
func TestAlwaysAbove(t *testing.T) {
	byte8 := unknown(8)
	checkAlways(t, above, []always{
		{from(8, 15), from(0, 7), true, true}, {one(256), byte8, true, true}, {one(1), one(0), true, true}, {from(1, all), one(0), true, true}, {one(all), from(0, all-1), true, true}, {from(9, 12), from(3, 8), true, true},
		{from(0, 7), from(8, 15), false, true}, {byte8, one(255), false, true}, {one(0), byte8, false, true}, {one(5), one(5), false, true}, {unknown(64), one(all), false, true}, {one(0), unknown(64), false, true}, {from(3, 8), from(8, 12), false, true},
		{byte8, one(254), false, false}, {byte8, one(0), false, false}, {byte8, byte8, false, false}, {unknown(64), unknown(64), false, false}, {from(3, 9), from(8, 12), false, false}, {from(8, 15), from(0, 8), false, false}, {one(255), byte8, false, false}, {one(1), byte8, false, false},
	})
}

// 17.3: at least and below, likewise; with them at most and above, and the signed ones.
func TestAlwaysAtLeast(t *testing.T) {
	byte8 := unknown(8)
	checkAlways(t, atLeast, []always{
		{from(8, 15), from(0, 8), true, true}, {one(255), byte8, true, true}, {byte8, one(0), true, true}, {one(5), one(5), true, true}, {unknown(64), one(0), true, true}, {one(all), unknown(64), true, true},
		{from(3, 7), from(8, 12), false, true}, {byte8, one(256), false, true}, {one(0), from(1, 9), false, true}, {one(4), one(5), false, true},
		{from(3, 8), from(8, 12), false, false}, {byte8, one(255), false, false}, {byte8, one(1), false, false}, {one(0), byte8, false, false}, {unknown(64), one(all), false, false}, {one(0), unknown(64), false, false}, {one(254), byte8, false, false}, {byte8, byte8, false, false},
	})
}

// 17.3: a shared bit and none, likewise.
func TestAlwaysShare(t *testing.T) {
	byte8, some := unknown(8), is(8, 7, 8, 15)
	checkAlways(t, share, []always{
		{some, one(8), true, true}, {some, one(9), true, true}, {one(8), some, true, true}, {one(5), one(4), true, true}, {some, is(8, 16, 8, 24), true, true}, {from(3, 6), one(6), true, true}, {from(1, all), one(all), true, true}, {from(1, 255), one(255), true, true},
		{byte8, one(256), false, true}, {byte8, one(0), false, true}, {one(0), byte8, false, true}, {one(5), one(2), false, true}, {is(0, 14, 0, 14), one(1), false, true}, {is(4, 8, 4, 8), one(8), false, true},
		{byte8, one(128), false, false}, {byte8, one(255), false, false}, {byte8, byte8, false, false}, {one(255), byte8, false, false}, {some, one(7), false, false}, {one(1), from(0, 1), false, false},
	})
}

// 17.3: each op by its number, of two constants.
func TestAlwaysByOp(t *testing.T) {
	for _, wide := range []bool{true, false} {
		for _, c := range []struct {
			x, y uint64
			yes  []int
		}{
			{5, 5, []int{16, 48, 64, 112, 176, 208}},
			{5, 6, []int{64, 80, 160, 176, 192, 208}},
			{6, 5, []int{32, 48, 64, 80, 96, 112}},
			{8, 7, []int{32, 48, 68, 80, 96, 112}},
			{0, 0, []int{16, 48, 68, 112, 176, 208}},
		} {
			yes := map[int]bool{}
			for _, op := range c.yes {
				yes[op] = true
			}
			for _, op := range ops {
				wantAlways(t, op, wide, one(c.x), one(c.y), yes[op], true)
			}
		}
	}
}

// 17.3: where the numbers are too great, nothing is known, not even of constants.
func TestAlwaysGreat(t *testing.T) {
	for _, op := range ops {
		for _, far := range []api.Scalar{one(1 << 32), from(0, 1<<32), one(all), unknown(64)} {
			for _, s := range []api.Scalar{one(0), one(5), far, unknown(8)} {
				wantAlways(t, op, false, far, s, false, false)
				wantAlways(t, op, false, s, far, false, false)
			}
		}
		if !signed(op) {
			continue
		}
		for _, wide := range []bool{true, false} {
			edge := uint64(top)
			if !wide {
				edge = top32
			}
			for _, far := range []api.Scalar{one(edge), from(0, edge), from(edge-1, edge), one(edge + 5)} {
				for _, s := range []api.Scalar{one(0), one(5), far, one(edge - 1)} {
					wantAlways(t, op, wide, far, s, false, false)
					wantAlways(t, op, wide, s, far, false, false)
				}
			}
			wantAlways(t, op, wide, one(edge-1), one(edge-1), op == 112 || op == 208, true)
		}
	}
	for _, op := range ops {
		if !signed(op) {
			wantAlways(t, op, false, one(low32), one(low32), op == 16 || op == 48 || op == 64 || op == 176, true)
			wantAlways(t, op, true, one(all), one(all), op == 16 || op == 48 || op == 64 || op == 176, true)
		}
	}
}

// 17.3: of an op without Not nothing is known.
func TestAlwaysOfOthers(t *testing.T) {
	l := []api.Scalar{one(0), one(5), one(all), one(1 << 32), unknown(8), unknown(64), from(3, 9), is(1, 4, 2, 4)}
	for _, op := range noOps() {
		for _, a := range l {
			for _, b := range l {
				wantAlways(t, op, true, a, b, false, false)
				wantAlways(t, op, false, a, b, false, false)
			}
		}
	}
}

// 17.3: of a scalar without a number a test and its opposite may both be false: then it is never true.
func TestAlwaysOfNothing(t *testing.T) {
	none := is(4, 8, 5, 8)
	for _, op := range []int{32, 176, 96, 208} {
		wantNever(t, op, true, none, one(7))
		wantAlways(t, op, true, none, one(7), false, true)
	}
}
