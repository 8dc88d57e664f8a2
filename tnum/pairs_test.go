package tnum_test

import (
	"testing"

	"portcullis/api"
	"portcullis/tnum"
)

func wantMeet(t *testing.T, a, b, due api.Tnum, ok bool) {
	t.Helper()
	got, found := tnum.Meet(a, b)
	if found != ok {
		t.Errorf("Meet({%#x, %#x}, {%#x, %#x}): %v", a.Value, a.Mask, b.Value, b.Mask, found)
	}
	want(t, got, due, "Meet({%#x, %#x}, {%#x, %#x})", a.Value, a.Mask, b.Value, b.Mask)
}

// 15.3: Meet of two that agree, where both or only one of them is known.
func TestMeet(t *testing.T) {
	for _, c := range []struct{ a, b, due api.Tnum }{
		{api.Tnum{Mask: 3}, api.Tnum{Value: 2}, api.Tnum{Value: 2}},
		{api.Tnum{Mask: 3}, api.Tnum{}, api.Tnum{}},
		{api.Tnum{Value: 5}, api.Tnum{Value: 5}, api.Tnum{Value: 5}},
		{api.Tnum{Value: 4, Mask: 3}, api.Tnum{Value: 4, Mask: 1}, api.Tnum{Value: 4, Mask: 1}},
		{api.Tnum{Value: 4, Mask: 3}, api.Tnum{Value: 1, Mask: 6}, api.Tnum{Value: 5, Mask: 2}},
		{api.Tnum{Value: 1, Mask: 2}, api.Tnum{Value: 2, Mask: 1}, api.Tnum{Value: 3}},
		{api.Tnum{Mask: 2}, api.Tnum{Mask: 1}, api.Tnum{}},
		{api.Tnum{Value: top, Mask: 1}, api.Tnum{Value: 1, Mask: top}, api.Tnum{Value: top + 1}},
		{api.Tnum{Mask: top + 1}, api.Tnum{Mask: top}, api.Tnum{Mask: top}},
		{api.Tnum{Mask: low32}, api.Tnum{Mask: all - 255}, api.Tnum{Mask: low32 - 255}},
		{api.Tnum{Value: upper, Mask: low32}, api.Tnum{Value: 7, Mask: all - 7}, api.Tnum{Value: upper + 7, Mask: low32 - 7}},
	} {
		wantMeet(t, c.a, c.b, c.due, true)
		wantMeet(t, c.b, c.a, c.due, true)
	}
	for _, x := range edges() {
		wantMeet(t, x, x, x, true)
		wantMeet(t, x, api.Tnum{Mask: all}, x, true)
		wantMeet(t, api.Tnum{Mask: all}, x, x, true)
	}
}

// 15.3, R2: Meet is false where both are known and differ, with nothing beside it.
func TestMeetNone(t *testing.T) {
	for _, c := range []struct{ a, b api.Tnum }{
		{api.Tnum{Value: 1}, api.Tnum{Value: 2}},
		{api.Tnum{}, api.Tnum{Value: 1}},
		{api.Tnum{Value: 4, Mask: 3}, api.Tnum{Mask: 3}},
		{api.Tnum{Value: 4, Mask: 3}, api.Tnum{Value: 8, Mask: 7}},
		{api.Tnum{Value: 5, Mask: 2}, api.Tnum{Value: 4, Mask: 2}},
		{api.Tnum{Value: top, Mask: top - 1}, api.Tnum{Mask: top - 1}},
		{api.Tnum{Value: 1, Mask: all - 1}, api.Tnum{Mask: all - 1}},
		{api.Tnum{Mask: low32}, api.Tnum{Value: low32 + 1, Mask: low32}},
	} {
		wantMeet(t, c.a, c.b, api.Tnum{}, false)
		wantMeet(t, c.b, c.a, api.Tnum{}, false)
	}
	for place := range 64 {
		bit := uint64(1) << place
		wantMeet(t, api.Tnum{Mask: all - bit}, api.Tnum{Value: bit, Mask: all - bit}, api.Tnum{}, false)
		wantMeet(t, api.Tnum{Value: all - bit}, api.Tnum{Value: all}, api.Tnum{}, false)
	}
}

func wantJoin(t *testing.T, a, b, due api.Tnum) {
	t.Helper()
	want(t, tnum.Join(a, b), due, "Join({%#x, %#x}, {%#x, %#x})", a.Value, a.Mask, b.Value, b.Mask)
}

// 15.3: Join knows what both know and agree on.
func TestJoin(t *testing.T) {
	for _, c := range []struct{ a, b, due api.Tnum }{
		{api.Tnum{Value: 1}, api.Tnum{Value: 3}, api.Tnum{Value: 1, Mask: 2}},
		{api.Tnum{}, api.Tnum{Value: 1}, api.Tnum{Mask: 1}},
		{api.Tnum{}, api.Tnum{Value: all}, api.Tnum{Mask: all}},
		{api.Tnum{Value: 5}, api.Tnum{Value: 6}, api.Tnum{Value: 4, Mask: 3}},
		{api.Tnum{Value: top}, api.Tnum{}, api.Tnum{Mask: top}},
		{api.Tnum{Value: top + 1}, api.Tnum{Value: top}, api.Tnum{Value: top, Mask: 1}},
		{api.Tnum{Value: 5}, api.Tnum{Value: 4, Mask: 1}, api.Tnum{Value: 4, Mask: 1}},
		{api.Tnum{Value: 4, Mask: 1}, api.Tnum{Value: 4, Mask: 2}, api.Tnum{Value: 4, Mask: 3}},
		{api.Tnum{Value: 4, Mask: 1}, api.Tnum{Value: 1, Mask: 2}, api.Tnum{Mask: 7}},
		{api.Tnum{Value: 1, Mask: 2}, api.Tnum{Value: 2, Mask: 1}, api.Tnum{Mask: 3}},
		{api.Tnum{Value: 9, Mask: 2}, api.Tnum{Value: 8, Mask: 4}, api.Tnum{Value: 8, Mask: 7}},
		{api.Tnum{Value: top, Mask: 1}, api.Tnum{Value: top + 2}, api.Tnum{Value: top, Mask: 3}},
	} {
		wantJoin(t, c.a, c.b, c.due)
		wantJoin(t, c.b, c.a, c.due)
	}
	for _, x := range edges() {
		wantJoin(t, x, x, x)
		wantJoin(t, x, api.Tnum{Mask: all}, api.Tnum{Mask: all})
		wantJoin(t, api.Tnum{Mask: all}, x, api.Tnum{Mask: all})
	}
}

func wantOf(t *testing.T, min, max uint64, due api.Tnum) {
	t.Helper()
	want(t, tnum.Of(min, max), due, "Of(%#x, %#x)", min, max)
}

// 15.3: Of knows the bits above the highest one in which min and max differ, whichever of them is the greater.
func TestOf(t *testing.T) {
	for _, c := range []struct {
		min, max uint64
		due      api.Tnum
	}{
		{4, 6, api.Tnum{Value: 4, Mask: 3}},
		{0, 1, api.Tnum{Mask: 1}},
		{4, 5, api.Tnum{Value: 4, Mask: 1}},
		{7, 8, api.Tnum{Mask: 15}},
		{8, 15, api.Tnum{Value: 8, Mask: 7}},
		{1, 2, api.Tnum{Mask: 3}},
		{0, all, api.Tnum{Mask: all}},
		{0, low32, api.Tnum{Mask: low32}},
		{low32, low32 + 1, api.Tnum{Mask: 1<<33 - 1}},
		{0, top, api.Tnum{Mask: all}},
		{5, top + 5, api.Tnum{Mask: all}},
		{top - 1, top, api.Tnum{Mask: all}},
		{top, all, api.Tnum{Value: top, Mask: top - 1}},
		{all - 1, all, api.Tnum{Value: all - 1, Mask: 1}},
		{top + 2, top + 3, api.Tnum{Value: top + 2, Mask: 1}},
		{upper, upper + low32, api.Tnum{Value: upper, Mask: low32}},
		{upper + 5, upper + 1<<20, api.Tnum{Value: upper, Mask: 1<<21 - 1}},
	} {
		wantOf(t, c.min, c.max, c.due)
		wantOf(t, c.max, c.min, c.due)
	}
}

// 15.3: Of one number is that number; of two that differ in one bit alone, at each place.
func TestOfEachPlace(t *testing.T) {
	for place := range 64 {
		bit := uint64(1) << place
		low := bit<<1 - 1
		for _, n := range []uint64{0, bit, bit - 1, all, 0x0123456789ABCDEF} {
			wantOf(t, n, n, api.Tnum{Value: n})
			wantOf(t, n, n^bit, api.Tnum{Value: n &^ low, Mask: low})
		}
	}
}

// 15.3: Of numbers below 64, and near the highest ones, is what all the numbers between them have in common from the top on.
func TestOfSmall(t *testing.T) {
	for _, rest := range []uint64{0, all - 63, top, 1 << 31} {
		for min := range uint64(64) {
			for max := range uint64(64) {
				low := uint64(0)
				for (min^max)&^low != 0 {
					low = low<<1 | 1
				}
				wantOf(t, rest+min, rest+max, api.Tnum{Value: rest + min&^low, Mask: low})
			}
		}
	}
}
