package scalar_test

import (
	"testing"

	"portcullis/api"
	"portcullis/scalar"
)

func wantTight(t *testing.T, s, due api.Scalar) {
	t.Helper()
	if got, ok := scalar.Tight(s); got != due || !ok {
		t.Errorf("Tight(%#x): %#x, %v; want %#x, true", s, got, ok, due)
	}
}

func wantNone(t *testing.T, s api.Scalar) {
	t.Helper()
	if got, ok := scalar.Tight(s); got != (api.Scalar{}) || ok {
		t.Errorf("Tight(%#x): %#x, %v; want the zero scalar, false", s, got, ok)
	}
}

func wantCheck(t *testing.T, s api.Scalar, due bool) {
	t.Helper()
	if got := scalar.Check(s); got != due {
		t.Errorf("Check(%#x): %v; want %v", s, got, due)
	}
}

// 16.2: what is tight stays: one number, all numbers, and some of those between.
func TestTightStays(t *testing.T) {
	for _, s := range []api.Scalar{
		one(0), one(1), one(top), one(all), one(upper), unknown(64), unknown(32), unknown(8), unknown(1),
		is(0, 15, 1, 8), is(0, 15, 7, 8), is(4, 3, 4, 6), is(1, 10, 1, 11), is(1, 10, 2, 10), is(0, top, 0, top), is(0, all, 1, all-1), is(0, all, top-1, top),
	} {
		wantTight(t, s, s)
		wantCheck(t, s, true)
	}
}

// 16.2: the Tnum narrows the bounds: Min below Value, Max above Value or Mask.
func TestTightBounds(t *testing.T) {
	for _, c := range []struct{ s, due api.Scalar }{
		{is(4, 3, 0, all), is(4, 3, 4, 7)},
		{is(4, 3, 3, 8), is(4, 3, 4, 7)},
		{is(4, 3, 3, 6), is(4, 3, 4, 6)},
		{is(4, 3, 5, 8), is(4, 3, 5, 7)},
		{is(5, 0, 0, all), one(5)},
		{is(0, 0, 0, all), one(0)},
		{is(all, 0, 0, all), one(all)},
		{is(top, 1, 0, all), is(top, 1, top, top+1)},
		{is(0, low32, 0, all), unknown(32)},
		{is(1, 4, 0, 6), is(1, 4, 1, 5)},
	} {
		wantTight(t, c.s, c.due)
		wantCheck(t, c.s, false)
	}
}

// 16.2: the bounds narrow the Tnum: bits that are the same in both, from the highest one on, are known.
func TestTightTnum(t *testing.T) {
	for _, c := range []struct{ s, due api.Scalar }{
		{is(0, all, 4, 6), is(4, 3, 4, 6)},
		{is(0, all, 5, 5), one(5)},
		{is(0, all, all, all), one(all)},
		{is(0, all, 0, 0), one(0)},
		{is(0, all, 0, 255), unknown(8)},
		{is(0, all, 0, 256), is(0, 511, 0, 256)},
		{is(0, all, top, all), is(top, top-1, top, all)},
		{is(0, all, top, top+2), is(top, 3, top, top+2)},
		{is(0, all, low32, low32+1), is(0, 1<<33-1, low32, low32+1)},
		{is(0, all, 1<<32, 1<<32+9), is(1<<32, 15, 1<<32, 1<<32+9)},
		{is(1, all-1, 16, 31), is(17, 14, 17, 31)},
	} {
		wantTight(t, c.s, c.due)
		wantCheck(t, c.s, false)
	}
}

// 16.2: what the second and the third time tell, and that a fourth one would tell nothing more.
func TestTightTimes(t *testing.T) {
	for _, c := range []struct{ s, due api.Scalar }{
		// The second time: of 0 and 2, and of 5 and 7, the bounds have one only, and only then go to it.
		{is(0, 2, 0, 1), one(0)},
		{is(5, 2, 6, 7), one(7)},
		{is(0, 2<<62, 0, 1<<62), one(0)},
		// The third time: of 1, 3, 9 and 11 none from 2 to 4 has 8, so Max is 3, so 2 is known, so Min is 3.
		{is(1, 10, 2, 4), one(3)},
		{is(1<<60, 10<<60, 2<<60, 4<<60), one(3 << 60)},
		// Likewise the other way round, of 4, 6, 12 and 14.
		{is(4, 10, 11, 13), one(12)},
		{is(4<<60, 10<<60, 11<<60, 13<<60), one(12 << 60)},
		// Likewise, where more than one number is left.
		{is(0x10, 0xAF, 0x20, 0x43), is(0x30, 0x0F, 0x30, 0x3F)},
	} {
		wantTight(t, c.s, c.due)
		wantTight(t, c.due, c.due)
		wantCheck(t, c.s, false)
		wantCheck(t, c.due, true)
	}
}

// 16.2: Min above Max, from the start, after Value or Mask was looked at, and later on.
func TestTightNoBounds(t *testing.T) {
	for _, s := range []api.Scalar{
		is(0, all, 5, 4), is(0, all, all, 0), is(5, 0, 6, 4), is(0, 15, 8, 7),
		is(6, 1, 0, 5), is(0, 3, 4, 9), is(5, 0, 0, 4), is(5, 0, 6, 9), is(0, 0, 1, all), is(all, 0, 0, all-1), is(top, 1, 0, top-1), is(0, top-1, top, all),
		is(0, 4, 1, 3), is(3, 4, 4, 6), is(0, top, 1, top-1),
	} {
		wantNone(t, s)
		wantCheck(t, s, false)
	}
}

// 16.2: bounds that lie among the Tnum's numbers and have nothing in common with it.
func TestTightNoMeet(t *testing.T) {
	for _, s := range []api.Scalar{is(1, 2, 2, 2), is(0, 6, 3, 3), is(1, 14, 8, 8), is(0, 10, 4, 7), is(0, 10<<60, 4<<60, 7<<60), is(0, all-1, all-2, all-2)} {
		wantNone(t, s)
		wantCheck(t, s, false)
	}
}

// 16.2: of a Tnum that may not be both are false, whatever the bounds.
func TestTightNoTnum(t *testing.T) {
	for _, tn := range []api.Tnum{{Value: 1, Mask: 1}, {Value: 3, Mask: 1}, {Value: 1, Mask: 3}, {Value: top, Mask: top}, {Value: top, Mask: all}, {Value: all, Mask: all}, {Value: all, Mask: 1}, {Value: low32 + 1, Mask: low32 + 1}} {
		for _, min := range []uint64{0, 1, 3, tn.Value, all} {
			for _, max := range []uint64{0, 1, 3, tn.Value, tn.Value | tn.Mask, all} {
				s := api.Scalar{Tnum: tn, Min: min, Max: max}
				wantNone(t, s)
				wantCheck(t, s, false)
			}
		}
	}
}

// 16.2: what is tight need not have a number: neither of 1 and 5 lies from 2 to 4.
func TestTightWithout(t *testing.T) {
	for _, s := range []api.Scalar{is(1, 4, 2, 4), is(1, 4, 3, 4), is(1<<61, 4<<61, 2<<61, 4<<61)} {
		wantTight(t, s, s)
		wantCheck(t, s, true)
		if l := numbers(s); len(l) != 0 {
			t.Errorf("%#x has %#x", s, l)
		}
	}
}

// 16.2: Tight of many scalars is the model's, and Check is true just of those that Tight leaves as they are.
func TestTightModel(t *testing.T) {
	draw := draws()
	for range 20000 {
		s := api.Scalar{Tnum: api.Tnum{Value: draw() >> (draw() % 64), Mask: draw() & draw() >> (draw() % 64)}, Min: draw() >> (draw() % 64), Max: draw() >> (draw() % 64)}
		if draw()%8 != 0 {
			s.Tnum.Value &^= s.Tnum.Mask
		}
		if draw()%2 == 0 {
			s.Min, s.Max = s.Tnum.Value|draw()&s.Tnum.Mask, s.Tnum.Value|draw()&s.Tnum.Mask
		}
		checkTight(t, s)
		if t.Failed() {
			return
		}
	}
}

// checkTight holds Tight and Check of s against the model.
func checkTight(t *testing.T, s api.Scalar) {
	t.Helper()
	due, ok := narrowed(s)
	if !ok {
		wantNone(t, s)
		wantCheck(t, s, false)
		return
	}
	wantTight(t, s, due)
	wantTight(t, due, due)
	wantCheck(t, s, s == due)
	wantCheck(t, due, true)
}

// 16.2, 16.5: of all scalars of five bits, low, in the middle and high: Tight is the model's, has the same numbers, and is false only where there is none.
func TestTightSmall(t *testing.T) {
	for _, low := range []int{0, 30, 59} {
		for _, s := range small(5) {
			s = is(s.Tnum.Value<<low, s.Tnum.Mask<<low, s.Min<<low, s.Max<<low)
			checkTight(t, s)
			sameNumbers(t, s)
			if t.Failed() {
				return
			}
		}
	}
}

// sameNumbers looks whether Tight leaves all numbers of s and adds none.
func sameNumbers(t *testing.T, s api.Scalar) {
	t.Helper()
	got, ok := scalar.Tight(s)
	l := numbers(s)
	if !ok && len(l) > 0 {
		t.Errorf("Tight(%#x): false, without %#x", s, l)
	}
	for _, n := range l {
		if !has(got, n) {
			t.Errorf("Tight(%#x): %#x, without %#x", s, got, n)
		}
	}
	if ok && len(numbers(got)) != len(l) {
		t.Errorf("Tight(%#x): %#x, with numbers beside %#x", s, got, l)
	}
}

// 16.5: Tight has the same numbers, of scalars with a few unknown bits anywhere and bounds near their numbers.
func TestTightSame(t *testing.T) {
	draw := draws()
	for range 20000 {
		mask := uint64(0)
		for range draw() % 6 {
			mask |= 1 << (draw() % 64)
		}
		value := draw() >> (draw() % 64) &^ mask
		s := is(value, mask, value|draw()&mask, value|draw()&mask)
		s.Min, s.Max = s.Min+draw()%3-1, s.Max+draw()%3-1
		checkTight(t, s)
		sameNumbers(t, s)
		if got, ok := scalar.Tight(s); ok && len(numbers(s)) == 0 {
			wantCheck(t, got, true) // such as TestTightWithout has
		}
		if t.Failed() {
			return
		}
	}
}
