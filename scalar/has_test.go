package scalar_test

import (
	"testing"

	"portcullis/api"
	"portcullis/scalar"
)

// 16.1: Const has one number, and Unknown has all.
func TestConstAndUnknown(t *testing.T) {
	want(t, scalar.Const(0), api.Scalar{}, "Const(0)")
	want(t, scalar.Const(1), api.Scalar{Tnum: api.Tnum{Value: 1}, Min: 1, Max: 1}, "Const(1)")
	want(t, scalar.Const(all), api.Scalar{Tnum: api.Tnum{Value: all}, Min: all, Max: all}, "Const(all)")
	want(t, scalar.Const(upper), api.Scalar{Tnum: api.Tnum{Value: upper}, Min: upper, Max: upper}, "Const(upper)")
	want(t, scalar.Unknown(), api.Scalar{Tnum: api.Tnum{Mask: all}, Min: 0, Max: all}, "Unknown()")
}

func wantHas(t *testing.T, s api.Scalar, n uint64, due bool) {
	t.Helper()
	if got := scalar.Has(s, n); got != due {
		t.Errorf("Has(%#x, %#x): %v; want %v", s, n, got, due)
	}
}

// 16.1: a number is one of a scalar, if its Tnum has it and it lies from Min to Max.
func TestHas(t *testing.T) {
	odd := is(1, 14, 3, 11)
	for n, due := range []bool{0: false, 1: false, 2: false, 3: true, 4: false, 5: true, 6: false, 7: true, 8: false, 9: true, 10: false, 11: true, 12: false, 13: false, 15: false, 17: false} {
		wantHas(t, odd, uint64(n), due)
	}
	for _, n := range []uint64{0, 1, top32, low32, top, all} {
		wantHas(t, scalar.Unknown(), n, true)
		wantHas(t, scalar.Const(n), n, true)
		wantHas(t, scalar.Const(n), n+1, false)
		wantHas(t, scalar.Const(n), n-1, false)
	}
	wantHas(t, is(0, all, 5, all-5), 4, false)
	wantHas(t, is(0, all, 5, all-5), 5, true)
	wantHas(t, is(0, all, 5, all-5), all-5, true)
	wantHas(t, is(0, all, 5, all-5), all-4, false)
	wantHas(t, is(1, all-1, 0, all), top, false)
	wantHas(t, is(1, all-1, 0, all), top+1, true)
}

// 16.1: Has tells of scalars that may not be, too: of bounds the wrong way round, that the Tnum does not reach, and of a Tnum whose Value has unknown bits.
func TestHasOfOthers(t *testing.T) {
	for n := range uint64(8) {
		wantHas(t, is(0, 7, 5, 3), n, false)
		wantHas(t, is(8, 7, 0, 7), n, false)
		wantHas(t, is(3, 1, 0, 7), n, n == 2 || n == 3)
		wantHas(t, is(7, 7, 2, 4), n, n >= 2 && n <= 4)
		wantHas(t, is(4, 1, 0, 100), n, n == 4 || n == 5)
	}
}

// 16.1: Has, of all scalars of three bits.
func TestHasSmall(t *testing.T) {
	for _, s := range small(3) {
		for n := range uint64(10) {
			wantHas(t, s, n, has(s, n))
		}
	}
}

// 16.1: Only tells the number where no bit is unknown, and else nothing.
func TestOnly(t *testing.T) {
	for _, c := range []struct {
		s   api.Scalar
		n   uint64
		due bool
	}{
		{one(0), 0, true}, {one(1), 1, true}, {one(5), 5, true}, {one(top), top, true}, {one(all), all, true},
		{is(5, 0, 0, all), 5, true}, {is(5, 0, 6, 4), 5, true}, {is(5, 0, 7, 7), 5, true},
		{is(4, 1, 4, 5), 0, false}, {is(0, 1, 0, 1), 0, false}, {is(5, top, 5, top+5), 0, false}, {unknown(64), 0, false}, {unknown(8), 0, false},
		{is(0, all, 5, 5), 0, false}, {is(4, 2, 4, 4), 0, false}, {is(1, 12, 2, 8), 0, false}, {is(7, 1, 7, 7), 0, false}, {is(0, top, 0, 0), 0, false},
	} {
		if n, ok := scalar.Only(c.s); n != c.n || ok != c.due {
			t.Errorf("Only(%#x): %#x, %v; want %#x, %v", c.s, n, ok, c.n, c.due)
		}
	}
}

func wantIn(t *testing.T, a, b api.Scalar, due bool) {
	t.Helper()
	if got := scalar.In(a, b); got != due {
		t.Errorf("In(%#x, %#x): %v; want %v", a, b, got, due)
	}
}

// 16.1: a scalar is in itself and in Unknown.
func TestInItself(t *testing.T) {
	for _, l := range families() {
		for _, s := range l {
			wantIn(t, s, s, true)
			wantIn(t, unknown(64), s, true)
			wantIn(t, s, unknown(64), false)
		}
	}
	wantIn(t, unknown(64), unknown(64), true)
}

// 16.1: the Tnum, Min and Max each forbid it alone, and the bounds only from one off.
func TestIn(t *testing.T) {
	a := is(0, 15, 4, 11)
	for _, c := range []struct {
		b   api.Scalar
		due bool
	}{
		{is(0, 15, 4, 11), true}, {is(0, 15, 5, 11), true}, {is(0, 15, 4, 10), true}, {is(0, 15, 5, 10), true}, {is(0, 14, 4, 10), true}, {one(4), true}, {one(11), true}, {one(7), true},
		{is(0, 15, 3, 11), false}, {is(0, 15, 4, 12), false}, {is(0, 15, 3, 12), false}, {one(3), false}, {one(12), false},
		{is(16, 15, 4, 11), false}, {is(0, 31, 4, 11), false}, {is(0, top+15, 4, 11), false}, {is(top, 15, 4, 11), false},
	} {
		wantIn(t, a, c.b, c.due)
	}
	odd := is(1, 14, 1, 15)
	wantIn(t, odd, is(1, 14, 1, 15), true)
	wantIn(t, odd, is(1, 12, 1, 13), true)
	wantIn(t, odd, is(0, 14, 2, 14), false)
	wantIn(t, odd, one(6), false)
	wantIn(t, odd, one(7), true)
	wantIn(t, is(0, all, 1, all-1), unknown(64), false)
	wantIn(t, is(0, all, 0, all-1), unknown(64), false)
	wantIn(t, is(0, all, 1, all), unknown(64), false)
	wantIn(t, is(0, all, 1, all), is(0, all, 1, all), true)
	wantIn(t, one(5), one(5), true)
	wantIn(t, one(5), one(4), false)
}

// 16.1: In tells of scalars that may not be, too: it holds bound against bound, whether they leave a number or not.
func TestInOfOthers(t *testing.T) {
	wantIn(t, is(0, 15, 9, 3), is(0, 15, 9, 3), true)
	wantIn(t, is(0, 15, 9, 3), is(0, 15, 10, 2), true)
	wantIn(t, is(0, 15, 9, 3), one(5), false)
	wantIn(t, one(5), is(5, 0, 6, 4), true)
	wantIn(t, is(15, 15, 0, 15), is(0, 15, 0, 15), true)
	wantIn(t, is(0, 15, 0, 15), is(15, 15, 0, 15), true)
	wantIn(t, is(4, 1, 0, 100), is(6, 1, 0, 100), false)
}

// 16.1: of scalars of three bits that may be, what is in another one has no number beside the other's.
func TestInSmall(t *testing.T) {
	l := mayAll(small(3))
	for _, a := range l {
		for _, b := range l {
			due := b.Tnum.Mask&^a.Tnum.Mask == 0 && (a.Tnum.Value^b.Tnum.Value)&^a.Tnum.Mask == 0 && b.Min >= a.Min && b.Max <= a.Max
			wantIn(t, a, b, due)
			for _, n := range numbers(b) {
				if due && !has(a, n) {
					t.Fatalf("%#x in %#x without %d", b, a, n)
				}
			}
		}
	}
}
