package scalar_test

import (
	"math"
	"testing"

	"portcullis/api"
	"portcullis/scalar"
)

func wantCast(t *testing.T, s api.Scalar, bits int, due api.Scalar) {
	t.Helper()
	want(t, scalar.Cast(s, bits), due, "Cast(%#x, %d)", s, bits)
}

// cut tells Cast's answer.
func cut(s api.Scalar, bits int) api.Scalar {
	var most uint64
	switch bits {
	case 8:
		most = 255
	case 16:
		most = 65535
	case 32:
		most = 4294967295
	default:
		return s
	}
	if s.Max > most {
		s.Min, s.Max = 0, most
	}
	s.Tnum.Value, s.Tnum.Mask = s.Tnum.Value&most, s.Tnum.Mask&most
	s, _ = narrowed(s)
	return s
}

// 16.3: bounds stay where Max is below 2^bits, and go where it is not.
func TestCastBounds(t *testing.T) {
	for _, bits := range []int{8, 16, 32} {
		end := uint64(1) << bits
		for _, c := range []struct{ s, due api.Scalar }{
			{unknown(bits), unknown(bits)},
			{is(0, end-1, 5, end-1), is(0, end-1, 5, end-1)},
			{is(0, end-1, 5, end-2), is(0, end-1, 5, end-2)},
			{is(0, 2*end-1, 5, end), unknown(bits)},
			{is(0, 2*end-1, end-1, end), unknown(bits)},
			{is(0, 2*end-1, end-1, end+1), unknown(bits)},
			{is(end, end-1, end, 2*end-1), unknown(bits)},
			{is(end, end-1, end+5, 2*end-1), unknown(bits)},
			{is(end, 7, end+1, end+6), is(0, 7, 0, 7)},
			{is(0, all, 5, all), unknown(bits)},
			{is(0, all, 5, all-9), unknown(bits)},
			{is(0, all, top-1, top), unknown(bits)},
			{unknown(64), unknown(bits)},
			{one(0), one(0)},
			{one(end - 1), one(end - 1)},
			{one(end), one(0)},
			{one(end + 7), one(7)},
			{one(all), one(end - 1)},
			{one(top + 3), one(3)},
			{is(1, 4, 2, 4), is(1, 4, 2, 4)},
		} {
			mayBe(t, c.s)
			wantCast(t, c.s, bits, c.due)
		}
	}
}

// 16.3: known bits stay known below, and play no part above.
func TestCastTnum(t *testing.T) {
	for _, c := range []struct {
		s    api.Scalar
		bits int
		due  api.Scalar
	}{
		{is(0x105, 0x12, 0x105, 0x117), 8, is(5, 0x12, 5, 0x17)},
		{is(0x105, 0x12, 0x105, 0x117), 16, is(0x105, 0x12, 0x105, 0x117)},
		{is(0x105, 0x12, 0x107, 0x115), 16, is(0x105, 0x12, 0x107, 0x115)},
		{is(0x105, 0x12, 0x107, 0x115), 8, is(5, 0x12, 5, 0x17)},
		{is(upper+9, 6, upper+11, upper+13), 32, is(9, 6, 9, 15)},
		{is(upper+9, 6, upper+11, upper+13), 8, is(9, 6, 9, 15)},
		{is(5, all-low32, 5, all-low32+5), 32, one(5)},
		{is(5, all-low32, 5, all-low32+5), 16, one(5)},
		{is(5, all-255, 5, all-250), 8, one(5)},
		{is(5, all-255, 5, all-250), 16, is(5, 0xFF00, 5, 0xFF05)},
		{is(top+5, 0x100, top+5, top+0x105), 8, one(5)},
		{is(1, all-1, 1, all), 8, is(1, 254, 1, 255)},
		{is(0x80, top, 0x80, top+0x80), 8, one(0x80)},
	} {
		mayBe(t, c.s)
		wantCast(t, c.s, c.bits, c.due)
	}
}

// 16.3: for other numbers of bits a scalar is as it is.
func TestCastOthers(t *testing.T) {
	for _, bits := range []int{64, 0, -1, 7, 9, 15, 17, 31, 33, 63, 65, 1, 24, 48, 128, 256, -8, -16, -32, 1<<32 + 8, 1<<32 + 32, math.MinInt, math.MaxInt, math.MinInt + 8} {
		for _, s := range []api.Scalar{one(0), one(all), one(0x1234567), unknown(64), unknown(32), is(0, 511, 5, 300), is(upper+9, 6, upper+11, upper+13), is(1, 4, 2, 4)} {
			wantCast(t, s, bits, s)
		}
	}
}

// 16.3: Cast of many scalars is the model's, and may be.
func TestCastModel(t *testing.T) {
	draw := draws()
	for range 20000 {
		s := drawn(draw)
		for _, bits := range []int{8, 16, 32} {
			due := cut(s, bits)
			wantCast(t, s, bits, due)
			wantCheck(t, due, true)
			wantCast(t, due, bits, due)
		}
		if t.Failed() {
			return
		}
	}
}

// 16.5, T8: each number that is cut is one of Cast's answer, which may be.
func TestCastSound(t *testing.T) {
	for _, l := range families() {
		for _, s := range l {
			for _, bits := range []int{8, 16, 32} {
				got := scalar.Cast(s, bits)
				wantCheck(t, got, true)
				wantCast(t, s, bits, cut(s, bits))
				if few(s) {
					soundCast(t, s, bits, got)
				}
			}
		}
	}
	for _, place := range []int{6, 14, 30} {
		for _, s := range mayAll(small(5)) {
			s = is(s.Tnum.Value<<place, s.Tnum.Mask<<place, s.Min<<place, s.Max<<place)
			for _, bits := range []int{8, 16, 32} {
				soundCast(t, s, bits, scalar.Cast(s, bits))
			}
		}
	}
}

// soundCast looks whether got has each number of s, cut.
func soundCast(t *testing.T, s api.Scalar, bits int, got api.Scalar) {
	t.Helper()
	for _, n := range numbers(s) {
		if !has(got, n%(1<<bits)) {
			t.Errorf("Cast(%#x, %d): %#x, without %#x", s, bits, got, n%(1<<bits))
		}
	}
}
