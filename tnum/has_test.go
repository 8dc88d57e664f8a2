package tnum_test

import (
	"testing"

	"portcullis/api"
	"portcullis/tnum"
)

// 15.1: Const knows each bit, whatever number it is.
func TestConst(t *testing.T) {
	for _, n := range []uint64{0, 1, 2, 255, low32, low32 + 1, top - 1, top, all - 1, all, 0x0123456789ABCDEF} {
		want(t, tnum.Const(n), api.Tnum{Value: n}, "Const(%#x)", n)
	}
	for place := range 64 {
		n := uint64(1) << place
		want(t, tnum.Const(n), api.Tnum{Value: n}, "Const(%#x)", n)
	}
}

// 15.1: Unknown knows no bit.
func TestUnknown(t *testing.T) {
	want(t, tnum.Unknown(), api.Tnum{Value: 0, Mask: 0xFFFFFFFFFFFFFFFF}, "Unknown()")
}

func wantHas(t *testing.T, x api.Tnum, n uint64, due bool) {
	t.Helper()
	if got := tnum.Has(x, n); got != due {
		t.Errorf("Has({%#x, %#x}, %#x): %v", x.Value, x.Mask, n, got)
	}
}

// 15.1: what is one of a tnum's numbers, and what is none.
func TestHas(t *testing.T) {
	for _, c := range []struct {
		x    api.Tnum
		has  []uint64
		none []uint64
	}{
		{api.Tnum{}, []uint64{0}, []uint64{1, 2, top, all, low32 + 1}},
		{api.Tnum{Value: 5}, []uint64{5}, []uint64{0, 1, 4, 7, 13, 5 + top, 5 + low32 + 1, all - 5}},
		{api.Tnum{Value: all}, []uint64{all}, []uint64{0, all - 1, top - 1, low32, top}},
		{api.Tnum{Mask: all}, []uint64{0, 1, top, all, 0x0123456789ABCDEF}, nil},
		{api.Tnum{Mask: 1}, []uint64{0, 1}, []uint64{2, 3, top, top + 1, all}},
		{api.Tnum{Value: 4, Mask: 1}, []uint64{4, 5}, []uint64{0, 1, 6, 7, 4 + top}},
		{api.Tnum{Mask: top}, []uint64{0, top}, []uint64{1, top + 1, top - 1, all, top >> 1}},
		{api.Tnum{Value: 1, Mask: top}, []uint64{1, top + 1}, []uint64{0, top, 3, all}},
		{api.Tnum{Value: top, Mask: 1}, []uint64{top, top + 1}, []uint64{0, 1, all}},
		{api.Tnum{Value: 2, Mask: 5}, []uint64{2, 3, 6, 7}, []uint64{0, 1, 4, 5, 10}},
		{api.Tnum{Value: 7, Mask: all - 7}, []uint64{7, 15, all, top + 7}, []uint64{0, 6, 3, 5, all - 1, top}},
		{api.Tnum{Value: top - 1, Mask: top}, []uint64{top - 1, all}, []uint64{0, top, all - 1}},
	} {
		for _, n := range c.has {
			wantHas(t, c.x, n, true)
		}
		for _, n := range c.none {
			wantHas(t, c.x, n, false)
		}
	}
}

// 15.1: each bit is looked at where it is known, and not where it is unknown.
func TestHasEachPlace(t *testing.T) {
	const n = 0x0123456789ABCDEF
	for place := range 64 {
		bit := uint64(1) << place
		wantHas(t, api.Tnum{Value: n}, n^bit, false)
		wantHas(t, api.Tnum{Value: n &^ bit, Mask: bit}, n, true)
		wantHas(t, api.Tnum{Value: n &^ bit, Mask: bit}, n^bit, true)
		wantHas(t, api.Tnum{Value: n & bit, Mask: all - bit}, n, true)
		wantHas(t, api.Tnum{Value: n & bit, Mask: all - bit}, n^bit, false)
	}
}

// 15.1: where Value and Mask share bits, Value's are not looked at.
func TestHasShared(t *testing.T) {
	wantHas(t, api.Tnum{Value: 1, Mask: 1}, 0, true)
	wantHas(t, api.Tnum{Value: 1, Mask: 1}, 1, true)
	wantHas(t, api.Tnum{Value: 1, Mask: 1}, 2, false)
	wantHas(t, api.Tnum{Value: 7, Mask: 5}, 2, true)
	wantHas(t, api.Tnum{Value: 7, Mask: 5}, 7, true)
	wantHas(t, api.Tnum{Value: 7, Mask: 5}, 5, false)
	wantHas(t, api.Tnum{Value: top, Mask: top}, 0, true)
	wantHas(t, api.Tnum{Value: top, Mask: top}, top, true)
	wantHas(t, api.Tnum{Value: all, Mask: all}, 0, true)
	wantHas(t, api.Tnum{Value: all, Mask: all - 1}, 1, true)
	wantHas(t, api.Tnum{Value: all, Mask: all - 1}, 0, false)
}

func wantIn(t *testing.T, a, b api.Tnum, due bool) {
	t.Helper()
	if got := tnum.In(a, b); got != due {
		t.Errorf("In({%#x, %#x}, {%#x, %#x}): %v", a.Value, a.Mask, b.Value, b.Mask, got)
	}
}

// 15.1: each tnum is in itself and in Unknown; Unknown is in no other.
func TestInItself(t *testing.T) {
	for _, x := range edges() {
		wantIn(t, x, x, true)
		wantIn(t, api.Tnum{Mask: all}, x, true)
		wantIn(t, x, api.Tnum{Mask: all}, x.Mask == all)
	}
	for place := range 64 {
		bit := uint64(1) << place
		wantIn(t, api.Tnum{Mask: all - bit}, api.Tnum{Mask: all}, false)
		wantIn(t, api.Tnum{Value: bit, Mask: all - bit}, api.Tnum{Mask: all}, false)
	}
}

// 15.1: a Mask with one bit too few; values that differ where a.Mask has bits, and where it has none.
func TestIn(t *testing.T) {
	for _, c := range []struct {
		a, b api.Tnum
		want bool
	}{
		{api.Tnum{Value: 5}, api.Tnum{Value: 5}, true},
		{api.Tnum{Value: 5}, api.Tnum{Value: 4}, false},
		{api.Tnum{Value: 4, Mask: 1}, api.Tnum{Value: 5}, true},
		{api.Tnum{Value: 4, Mask: 1}, api.Tnum{Value: 4}, true},
		{api.Tnum{Value: 4, Mask: 1}, api.Tnum{Value: 6}, false},
		{api.Tnum{Value: 5}, api.Tnum{Value: 4, Mask: 1}, false},
		{api.Tnum{Value: 4}, api.Tnum{Value: 4, Mask: 1}, false},
		{api.Tnum{Value: 8, Mask: 7}, api.Tnum{Value: 10, Mask: 5}, true},
		{api.Tnum{Value: 8, Mask: 5}, api.Tnum{Value: 8, Mask: 7}, false},
		{api.Tnum{Value: 10, Mask: 5}, api.Tnum{Value: 8, Mask: 7}, false},
		{api.Tnum{Value: 8, Mask: 7}, api.Tnum{Value: 2, Mask: 5}, false},
		{api.Tnum{Value: 8, Mask: 7}, api.Tnum{Value: 24, Mask: 5}, false},
		{api.Tnum{Mask: top}, api.Tnum{Value: top}, true},
		{api.Tnum{Mask: top}, api.Tnum{Value: top + 1}, false},
		{api.Tnum{Mask: top - 1}, api.Tnum{Mask: top}, false},
		{api.Tnum{Mask: top - 1}, api.Tnum{Value: top}, false},
		{api.Tnum{}, api.Tnum{Mask: 1}, false},
		{api.Tnum{Mask: 3}, api.Tnum{Mask: 12}, false},
		{api.Tnum{Mask: low32}, api.Tnum{Value: low32}, true},
		{api.Tnum{Mask: low32}, api.Tnum{Value: low32 + 1}, false},
	} {
		wantIn(t, c.a, c.b, c.want)
	}
}

// threeBits answers all pairs of Value and Mask of three bits, at that place, with that Value elsewhere; many of them share bits.
func threeBits(place int, rest uint64) []api.Tnum {
	var l []api.Tnum
	rest &^= 7 << place
	for value := range uint64(8) {
		for mask := range uint64(8) {
			l = append(l, api.Tnum{Value: rest | value<<place, Mask: mask << place})
		}
	}
	return l
}

// 15.1: In is true just where each number of b is one of a, also where Value and Mask share bits.
func TestInShared(t *testing.T) {
	for _, place := range []int{0, 30, 61} {
		for _, rest := range []uint64{0, all, 0x0123456789ABCDEF} {
			l := threeBits(place, rest)
			for _, a := range l {
				for _, b := range l {
					due := true
					for _, n := range numbers(b) {
						due = due && has(a, n)
						wantHas(t, a, n, has(a, n))
					}
					wantIn(t, a, b, due)
				}
			}
		}
	}
	wantIn(t, api.Tnum{Value: all, Mask: all}, api.Tnum{Value: 5, Mask: 7}, true)
	wantIn(t, api.Tnum{Value: 1, Mask: 1}, api.Tnum{}, true)
	wantIn(t, api.Tnum{}, api.Tnum{Value: 1, Mask: 1}, false)
}

// 15.1: what is in one that is in a third is in that one; what is in a tnum has its least and its greatest number there.
func TestInFollows(t *testing.T) {
	l := edges()
	for _, a := range l {
		for _, b := range l {
			for _, c := range l {
				if tnum.In(a, b) && tnum.In(b, c) {
					wantIn(t, a, c, true)
				}
			}
			if tnum.In(a, b) {
				wantHas(t, a, b.Value, true)
				wantHas(t, a, b.Value|b.Mask, true)
			}
		}
	}
}
