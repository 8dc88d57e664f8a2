package scalar_test

import (
	"math/bits"
	"testing"

	"portcullis/api"
	"portcullis/scalar"
)

const (
	all   = 1<<64 - 1
	top   = 1 << 63
	top32 = 1 << 31
	low32 = 1<<32 - 1
	// upper is an upper half that plays no part in 32 bits.
	upper = 0xABCDEF12 << 32
)

// is writes a scalar out.
func is(value, mask, min, max uint64) api.Scalar {
	return api.Scalar{Tnum: api.Tnum{Value: value, Mask: mask}, Min: min, Max: max}
}

// one is the scalar of n alone.
func one(n uint64) api.Scalar { return is(n, 0, n, n) }

// unknown is the scalar of all numbers of so many bits.
func unknown(bits int) api.Scalar { return is(0, all>>(64-bits), 0, all>>(64-bits)) }

// want holds an answer of a call that names no error against the one that is due.
func want(t *testing.T, got, due api.Scalar, what string, about ...any) {
	t.Helper()
	if got != due {
		t.Errorf(what+": %#x; want %#x", append(about, got, due)...)
	}
}

// wantOK holds an answer and its error against the answer that is due, beside which stands no error.
func wantOK(t *testing.T, got api.Scalar, err api.Errno, due api.Scalar, what string, about ...any) {
	t.Helper()
	if err != api.OK {
		t.Errorf(what+": error %d; want none", append(about, err)...)
	}
	want(t, got, due, what, about...)
}

// wantArg looks whether a call is refused, with nothing beside the error.
func wantArg(t *testing.T, got api.Scalar, err api.Errno, what string, about ...any) {
	t.Helper()
	if err != api.ErrArg {
		t.Errorf(what+": error %d; want ErrArg", append(about, err)...)
	}
	want(t, got, api.Scalar{}, what, about...)
}

// mayBe looks whether a scalar that a test hands in is one of which the document tells something.
func mayBe(t *testing.T, s api.Scalar) {
	t.Helper()
	if !scalar.Check(s) {
		t.Errorf("the test is wrong: %#x may not be", s)
	}
}

// has tells whether n is one of s's numbers, bit by bit.
func has(s api.Scalar, n uint64) bool {
	for place := range 64 {
		if s.Tnum.Mask>>place&1 == 0 && s.Tnum.Value>>place&1 != n>>place&1 {
			return false
		}
	}
	return n >= s.Min && n <= s.Max
}

// near tells whether s's bounds are so near one another that what lies between them can be gone over.
func near(s api.Scalar) bool { return s.Max-s.Min < 64 }

// few tells whether s has so few unknown bits, or so near bounds, that its numbers can be gone over.
func few(s api.Scalar) bool { return near(s) || bits.OnesCount64(s.Tnum.Mask) <= 6 }

// numbers answers all numbers that s stands for; it must be one of few unknown bits or of near bounds.
func numbers(s api.Scalar) []uint64 {
	l := []uint64{s.Tnum.Value &^ s.Tnum.Mask}
	if near(s) {
		l = nil
		for i := range s.Max - s.Min + 1 {
			l = append(l, s.Min+i)
		}
	} else {
		for place := range 64 {
			if s.Tnum.Mask>>place&1 == 0 {
				continue
			}
			for _, n := range l {
				l = append(l, n|1<<place)
			}
		}
	}
	within := l[:0]
	for _, n := range l {
		if has(s, n) {
			within = append(within, n)
		}
	}
	return within
}

// narrowed tells Tight's answer: until nothing more comes of it, the bounds go to the least and the greatest number of the known bits, and the bits that are the same in both bounds from the highest one on are known.
func narrowed(s api.Scalar) (api.Scalar, bool) {
	if s.Tnum.Value&s.Tnum.Mask != 0 {
		return api.Scalar{}, false
	}
	for {
		before := s
		if s.Min < s.Tnum.Value {
			s.Min = s.Tnum.Value
		}
		if greatest := s.Tnum.Value + s.Tnum.Mask; s.Max > greatest {
			s.Max = greatest
		}
		if s.Min > s.Max {
			return api.Scalar{}, false
		}
		for place := 63; place >= 0 && s.Min>>place == s.Max>>place; place-- {
			bit := s.Min >> place & 1
			if s.Tnum.Mask>>place&1 == 0 && s.Tnum.Value>>place&1 != bit {
				return api.Scalar{}, false
			}
			s.Tnum.Mask &^= 1 << place
			s.Tnum.Value |= bit << place
		}
		if s == before {
			return s, true
		}
	}
}

// tnums answers each tnum that has 0, 1 or an unknown bit at these places, and those bits of rest elsewhere.
func tnums(rest uint64, places ...int) []api.Tnum {
	l := []api.Tnum{{Value: rest}}
	for _, place := range places {
		bit := uint64(1) << place
		for i, t := range l {
			l[i].Value &^= bit
			l = append(l, api.Tnum{Value: t.Value | bit, Mask: t.Mask}, api.Tnum{Value: t.Value &^ bit, Mask: t.Mask | bit})
		}
	}
	return l
}

// mayAll answers those of these scalars that may be once they are narrowed, each one once.
func mayAll(l []api.Scalar) []api.Scalar {
	var may []api.Scalar
	met := map[api.Scalar]bool{}
	for _, s := range l {
		s, ok := narrowed(s)
		if ok && !met[s] {
			met[s] = true
			may = append(may, s)
		}
	}
	return may
}

// small answers each scalar of so many bits, also such as may not be.
func small(width int) []api.Scalar {
	var l []api.Scalar
	var places []int
	for place := range width {
		places = append(places, place)
	}
	for _, t := range tnums(0, places...) {
		for min := range uint64(1) << width {
			for max := range uint64(1) << width {
				l = append(l, api.Scalar{Tnum: t, Min: min, Max: max})
			}
		}
	}
	return l
}

// around answers scalars with an unknown bit at some of these places, known ones elsewhere, and bounds near their numbers.
func around(rest uint64, places ...int) []api.Scalar {
	var l []api.Scalar
	for _, t := range tnums(rest, places...) {
		least, greatest := t.Value, t.Value|t.Mask
		l = append(l, api.Scalar{Tnum: t, Min: least, Max: greatest}, api.Scalar{Tnum: t, Min: least + 1, Max: greatest}, api.Scalar{Tnum: t, Min: least, Max: greatest - 1})
		inner := numbers(api.Scalar{Tnum: t, Max: all})
		for _, n := range inner[:(len(inner)+1)/2] {
			l = append(l, api.Scalar{Tnum: t, Min: n, Max: greatest}, api.Scalar{Tnum: t, Min: least, Max: n}, api.Scalar{Tnum: t, Min: n - 1, Max: n + 1})
		}
	}
	return mayAll(l)
}

// families answers lists of scalars with few unknown bits and near bounds, each list at other places of a number.
func families() [][]api.Scalar {
	l := [][]api.Scalar{mayAll(small(3))}
	for _, places := range [][]int{{6, 7, 8}, {30, 31, 32}, {61, 62, 63}, {0, 31, 63}} {
		both := append(around(0, places...), around(0x0123456789ABCDEF, places...)...)
		l = append(l, mayAll(append(both, around(all, places...)...)))
	}
	return append(l, mixed())
}

// mixed answers scalars far from one another: small ones, such as stand at the edges of 32 and 64 bits, and counts of shifts.
func mixed() []api.Scalar {
	var l []api.Scalar
	for _, n := range []uint64{0, 1, 2, 7, 31, 32, 33, 63, 64, 100, top32 - 1, top32, low32, low32 + 1, low32 + 8, top - 1, top, top + 1, all - 1, all, upper + 3} {
		l = append(l, one(n), is(n&^5, 5, n&^5, n|5), is(n&^3, 3, n, all))
	}
	for _, n := range []uint64{low32 - 1, low32, top - 2, top32 - 2, 30, 62} {
		l = append(l, is(0, all, n, n+1), is(0, all, n, n+3), is(0, all, n-2, n+1))
	}
	return mayAll(l)
}

// draws answers numbers that look like chance, the same ones at each run.
func draws() func() uint64 {
	state := uint64(16)
	return func() uint64 {
		state += 0x9E3779B97F4A7C15
		n := (state ^ state>>30) * 0xBF58476D1CE4E5B9
		n = (n ^ n>>27) * 0x94D049BB133111EB
		return n ^ n>>31
	}
}

// drawn answers a scalar of few, of half or of many unknown bits, often of small numbers, that may be.
func drawn(draw func() uint64) api.Scalar {
	for {
		mask := draw()
		switch draw() % 4 {
		case 0:
			mask &= draw() & draw()
		case 1:
			mask |= draw() | draw()
		case 2:
			mask = 0
		}
		width := draw() % 64
		t := api.Tnum{Value: draw() &^ mask >> width, Mask: mask >> width}
		m, n := draw()>>width, draw()>>width
		if draw()%3 == 0 {
			m = 0
		}
		if s, ok := narrowed(api.Scalar{Tnum: t, Min: min(m, n), Max: max(m, n)}); ok {
			return s
		}
	}
}
