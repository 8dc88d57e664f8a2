package tnum_test

import (
	"testing"

	"portcullis/api"
)

const (
	all   = 1<<64 - 1
	top   = 1 << 63
	top32 = 1 << 31
	low32 = 1<<32 - 1
	// upper is an upper half that plays no part in 32 bits.
	upper = 0xABCDEF12 << 32
)

// want holds an answer of a call that names no error against the one that is due.
func want(t *testing.T, got, due api.Tnum, what string, about ...any) {
	t.Helper()
	if got != due {
		t.Errorf(what+": {%#x, %#x}; want {%#x, %#x}", append(about, got.Value, got.Mask, due.Value, due.Mask)...)
	}
}

// wantOK holds an answer and its error against the answer that is due, beside which stands no error.
func wantOK(t *testing.T, got api.Tnum, err api.Errno, due api.Tnum, what string, about ...any) {
	t.Helper()
	if err != api.OK {
		t.Errorf(what+": error %d; want none", append(about, err)...)
	}
	want(t, got, due, what, about...)
}

// wantArg looks whether a call is refused, with nothing beside the error.
func wantArg(t *testing.T, got api.Tnum, err api.Errno, what string, about ...any) {
	t.Helper()
	if err != api.ErrArg {
		t.Errorf(what+": error %d; want ErrArg", append(about, err)...)
	}
	want(t, got, api.Tnum{}, what, about...)
}

// numbers answers all numbers that t stands for, bit by bit; few of its bits must be unknown.
func numbers(t api.Tnum) []uint64 {
	l := []uint64{t.Value &^ t.Mask}
	for place := range 64 {
		if t.Mask>>place&1 == 0 {
			continue
		}
		for _, n := range l {
			l = append(l, n|1<<place)
		}
	}
	return l
}

// has tells whether n is one of t's numbers, bit by bit.
func has(t api.Tnum, n uint64) bool {
	for place := range 64 {
		if t.Mask>>place&1 == 0 && t.Value>>place&1 != n>>place&1 {
			return false
		}
	}
	return true
}

// tightest answers the tnum with the fewest unknown bits that has all of these numbers, of which there must be one.
func tightest(l []uint64) api.Tnum {
	var t api.Tnum
	for place := range 64 {
		var found [2]bool
		for _, n := range l {
			found[n>>place&1] = true
		}
		if found[0] && found[1] {
			t.Mask |= 1 << place
		} else if found[1] {
			t.Value |= 1 << place
		}
	}
	return t
}

// laid answers each tnum that has 0, 1 or an unknown bit at these places, and those bits of rest elsewhere.
func laid(rest uint64, places ...int) []api.Tnum {
	l := []api.Tnum{{Value: rest}}
	for _, place := range places {
		bit := uint64(1) << place
		for i, t := range l {
			l[i].Value &^= bit
			l = append(l, api.Tnum{Value: t.Value | bit, Mask: t.Mask}, api.Tnum{Value: t.Value &^ bit, Mask: t.Mask | bit})
		}
	}
	return l
}

// families answers lists of tnums with few unknown bits, each list at other places of a number and with other known bits beside them.
func families() [][]api.Tnum {
	var l [][]api.Tnum
	for _, places := range [][]int{{0, 1, 2}, {6, 7, 8}, {15, 16}, {30, 31, 32}, {61, 62, 63}, {0, 31, 63}} {
		both := append(laid(0, places...), laid(all, places...)...)
		l = append(l, both, append(laid(0x0123456789ABCDEF, places...), laid(5, places...)...))
	}
	return l
}

// edges answers tnums at the edges of 32 and 64 bits: with all, with none and with some bits known.
func edges() []api.Tnum {
	l := []api.Tnum{
		{}, {Mask: all}, {Value: all}, {Value: 1}, {Value: 2}, {Value: 3}, {Value: top}, {Value: top - 1}, {Value: top + 1},
		{Value: top32}, {Value: low32}, {Value: low32 + 1}, {Value: upper}, {Value: 0x0123456789ABCDEF},
		{Mask: 1}, {Value: all - 1, Mask: 1}, {Value: 2, Mask: 1}, {Mask: 2}, {Value: 1, Mask: 2}, {Value: 4, Mask: 3},
		{Mask: top}, {Value: top - 1, Mask: top}, {Value: 1, Mask: top}, {Value: top, Mask: 1}, {Mask: top + 1},
		{Value: top, Mask: top - 1}, {Mask: top - 1}, {Value: 1, Mask: all - 1}, {Mask: all - 1},
		{Mask: top32}, {Value: top32, Mask: top32 - 1}, {Mask: low32}, {Value: upper, Mask: low32}, {Mask: all - low32},
		{Value: 5, Mask: all - low32}, {Value: 0x5555555555555555, Mask: 0xAAAAAAAAAAAAAAAA},
		{Value: 0xAAAAAAAAAAAAAAAA, Mask: 0x5555555555555555}, {Mask: 0x8000000180000001}, {Value: 0xFF00FF00FF00FF00, Mask: 0xFF},
	}
	return l
}

// draws answers numbers that look like chance, the same ones at each run.
func draws() func() uint64 {
	state := uint64(15)
	return func() uint64 {
		state += 0x9E3779B97F4A7C15
		n := (state ^ state>>30) * 0xBF58476D1CE4E5B9
		n = (n ^ n>>27) * 0x94D049BB133111EB
		return n ^ n>>31
	}
}

// drawn answers a tnum of few, of half or of many unknown bits, often of small numbers.
func drawn(draw func() uint64) api.Tnum {
	unknown := draw()
	switch draw() % 4 {
	case 0:
		unknown &= draw() & draw()
	case 1:
		unknown |= draw() | draw()
	case 2:
		unknown = 1 << (draw() % 64)
	}
	width := draw() % 64
	return api.Tnum{Value: draw() &^ unknown >> width, Mask: unknown >> width}
}
