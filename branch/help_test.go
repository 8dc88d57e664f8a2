package branch_test

import (
	"math"
	"math/bits"
	"testing"

	"portcullis/alu"
	"portcullis/api"
	"portcullis/branch"
	"portcullis/scalar"
)

const (
	all   = 1<<64 - 1
	top   = 1 << 63
	top32 = 1 << 31
	low32 = 1<<32 - 1
)

// ops is the twelve.
var ops = []int{16, 32, 48, 64, 68, 80, 96, 112, 160, 176, 192, 208}

// noOps answers many numbers that are no op: each near the twelve, all small ones, and the farthest ones.
func noOps() []int {
	known := map[int]bool{}
	for _, op := range ops {
		known[op] = true
	}
	l := []int{math.MinInt, math.MinInt + 1, math.MinInt + 16, math.MaxInt, math.MaxInt - 15, 1 << 32, 1<<32 + 16, 1<<32 + 64, 1<<62 + 68}
	for n := -600; n <= 600; n++ {
		if !known[n] {
			l = append(l, n)
		}
	}
	return l
}

// is writes a scalar out.
func is(value, mask, min, max uint64) api.Scalar {
	return api.Scalar{Tnum: api.Tnum{Value: value, Mask: mask}, Min: min, Max: max}
}

// one is the scalar of n alone.
func one(n uint64) api.Scalar { return is(n, 0, n, n) }

// unknown is the scalar of all numbers of so many bits.
func unknown(bits int) api.Scalar { return is(0, all>>(64-bits), 0, all>>(64-bits)) }

// from is the scalar of all numbers from min to max: known are the bits above the highest one in which they differ.
func from(min, max uint64) api.Scalar {
	mask := uint64(1)<<bits.Len64(min^max) - 1
	return is(min&^mask, mask, min, max)
}

// mayBe looks whether a scalar that a test hands in is one of which the document tells something.
func mayBe(t *testing.T, s api.Scalar) {
	t.Helper()
	if !scalar.Check(s) {
		t.Errorf("the test is wrong: %#x may not be", s)
	}
}

// wantRefine holds Refine's answer against the one that is due.
func wantRefine(t *testing.T, op int, wide bool, a, b, first, second api.Scalar, due bool) {
	t.Helper()
	x, y, may := branch.Refine(op, wide, a, b)
	if x != first || y != second || may != due {
		t.Errorf("Refine(%d, wide %v, %#x, %#x): %#x, %#x, %v; want %#x, %#x, %v", op, wide, a, b, x, y, may, first, second, due)
	}
}

// wantSame looks whether a refinement tells nothing.
func wantSame(t *testing.T, op int, wide bool, a, b api.Scalar) {
	t.Helper()
	wantRefine(t, op, wide, a, b, a, b, true)
}

// wantNever looks whether a refinement is false, with nothing beside it.
func wantNever(t *testing.T, op int, wide bool, a, b api.Scalar) {
	t.Helper()
	wantRefine(t, op, wide, a, b, api.Scalar{}, api.Scalar{}, false)
}

// told is what is known of a and b, and what a test tells of them.
type told struct{ a, b, first, second api.Scalar }

// never is two of which a test is never true.
type never struct{ a, b api.Scalar }

// kin is how one rule is told of several ops: op, the op that is it the other way round, and both signed ones (0: there is none).
type kin struct{ op, turned, signed, signedTurned int }

// each goes over the ops that tell the rule of a and b, by its width; the last one says whether a and b stand the other way round.
func (k kin) each(a, b api.Scalar, do func(op int, wide, turned bool)) {
	most := max(a.Max, b.Max)
	for _, wide := range []bool{true, false} {
		whole, half := uint64(all), uint64(top)
		if !wide {
			whole, half = low32, top32
		}
		if most > whole {
			continue
		}
		do(k.op, wide, false)
		if k.turned != 0 {
			do(k.turned, wide, true)
		}
		if k.signed != 0 && most < half {
			do(k.signed, wide, false)
			do(k.signedTurned, wide, true)
		}
	}
}

// check looks at cases of a rule, by each op that tells it, wide and (where the numbers are small) not.
func (k kin) check(t *testing.T, cases []told) {
	t.Helper()
	for _, c := range cases {
		mayBe(t, c.a)
		mayBe(t, c.b)
		k.each(c.a, c.b, func(op int, wide, turned bool) {
			t.Helper()
			if turned {
				wantRefine(t, op, wide, c.b, c.a, c.second, c.first, true)
			} else {
				wantRefine(t, op, wide, c.a, c.b, c.first, c.second, true)
			}
		})
	}
}

// refuses looks at two of which a rule is never true, likewise.
func (k kin) refuses(t *testing.T, cases []never) {
	t.Helper()
	for _, c := range cases {
		mayBe(t, c.a)
		mayBe(t, c.b)
		k.each(c.a, c.b, func(op int, wide, turned bool) {
			t.Helper()
			if turned {
				wantNever(t, op, wide, c.b, c.a)
			} else {
				wantNever(t, op, wide, c.a, c.b)
			}
		})
	}
}

// holds tells whether op's test is true of two numbers.
func holds(op int, wide bool, x, y uint64) bool {
	if op == 68 {
		return !holds(64, wide, x, y)
	}
	yes, _ := alu.Test(op, wide, x, y)
	return yes
}

// has tells whether n is one of s's numbers, bit by bit.
func has(s api.Scalar, n uint64) bool {
	for place := range 64 {
		if s.Tnum.Mask>>place&1 == 0 && s.Tnum.Value>>place&1 != n>>place&1 {
			return false
		}
	}
	return n >= s.Min && n <= s.Max
}

// near tells whether s's bounds are so near one another that what lies between them can be gone over.
func near(s api.Scalar) bool { return s.Max-s.Min < 64 }

// few tells whether s has so few unknown bits, or so near bounds, that its numbers can be gone over.
func few(s api.Scalar) bool { return near(s) || bits.OnesCount64(s.Tnum.Mask) <= 6 }

// numbers answers all numbers that s stands for; it must be one of few unknown bits or of near bounds.
func numbers(s api.Scalar) []uint64 {
	l := []uint64{s.Tnum.Value}
	if near(s) {
		l = nil
		for i := range s.Max - s.Min + 1 {
			l = append(l, s.Min+i)
		}
	} else {
		for place := range 64 {
			if s.Tnum.Mask>>place&1 == 0 {
				continue
			}
			for _, n := range l {
				l = append(l, n|1<<place)
			}
		}
	}
	within := l[:0]
	for _, n := range l {
		if has(s, n) {
			within = append(within, n)
		}
	}
	return within
}

// narrowed tells chapter 16's Tight, of a Tnum that may be: until nothing more comes of it, the bounds go to the least and the greatest number of the known bits, and the bits that are the same in both bounds from the highest one on are known.
func narrowed(s api.Scalar) (api.Scalar, bool) {
	for {
		before := s
		s.Min, s.Max = max(s.Min, s.Tnum.Value), min(s.Max, s.Tnum.Value+s.Tnum.Mask)
		if s.Min > s.Max {
			return api.Scalar{}, false
		}
		for place := 63; place >= 0 && s.Min>>place == s.Max>>place; place-- {
			bit := s.Min >> place & 1
			if s.Tnum.Mask>>place&1 == 0 && s.Tnum.Value>>place&1 != bit {
				return api.Scalar{}, false
			}
			s.Tnum.Mask &^= 1 << place
			s.Tnum.Value |= bit << place
		}
		if s == before {
			return s, true
		}
	}
}

// mayAll answers those of these scalars that may be once they are narrowed, each one once.
func mayAll(l []api.Scalar) []api.Scalar {
	var may []api.Scalar
	met := map[api.Scalar]bool{}
	for _, s := range l {
		s, ok := narrowed(s)
		if ok && !met[s] {
			met[s] = true
			may = append(may, s)
		}
	}
	return may
}

// tnums answers each tnum that has 0, 1 or an unknown bit at these places, and those bits of rest elsewhere.
func tnums(rest uint64, places ...int) []api.Tnum {
	l := []api.Tnum{{Value: rest}}
	for _, place := range places {
		bit := uint64(1) << place
		for i, t := range l {
			l[i].Value &^= bit
			l = append(l, api.Tnum{Value: t.Value | bit, Mask: t.Mask}, api.Tnum{Value: t.Value &^ bit, Mask: t.Mask | bit})
		}
	}
	return l
}

// small answers each scalar of so many bits that may be, also such as have no number.
func small(width int) []api.Scalar {
	var l []api.Scalar
	var places []int
	for place := range width {
		places = append(places, place)
	}
	for _, t := range tnums(0, places...) {
		for min := range uint64(1) << width {
			for max := range uint64(1) << width {
				l = append(l, api.Scalar{Tnum: t, Min: min, Max: max})
			}
		}
	}
	return mayAll(l)
}

// around answers scalars with an unknown bit at some of these places, known ones elsewhere, and bounds near their numbers.
func around(rest uint64, places ...int) []api.Scalar {
	var l []api.Scalar
	for _, t := range tnums(rest, places...) {
		least, greatest := t.Value, t.Value|t.Mask
		l = append(l, api.Scalar{Tnum: t, Min: least, Max: greatest}, api.Scalar{Tnum: t, Min: least + 1, Max: greatest}, api.Scalar{Tnum: t, Min: least, Max: greatest - 1})
		inner := numbers(api.Scalar{Tnum: t, Max: all})
		for _, n := range inner[:(len(inner)+1)/2] {
			l = append(l, api.Scalar{Tnum: t, Min: n, Max: greatest}, api.Scalar{Tnum: t, Min: least, Max: n}, api.Scalar{Tnum: t, Min: n - 1, Max: n + 1})
		}
	}
	return l
}

// beside answers scalars of near bounds at a number, of which no other bits are known.
func beside(n uint64) []api.Scalar {
	var l []api.Scalar
	for low := range uint64(6) {
		for high := range uint64(6) {
			l = append(l, is(0, all, n-low, n+high), is(n&1, all-1, n-low, n+high), is(n&2, all-2, n-low, n+high))
		}
	}
	return l
}

// families answers lists of scalars with few unknown bits or near bounds, each list at other numbers: near 0, 2^31, 2^32, 2^63, 2^64 - 1, and far from one another.
func families() [][]api.Scalar {
	l := [][]api.Scalar{small(3)}
	for _, n := range []uint64{2, top32, 1 << 32, top, all - 2} {
		l = append(l, mayAll(beside(n)))
	}
	for _, places := range [][]int{{6, 7, 8}, {30, 31, 32}, {61, 62, 63}, {0, 31, 63}} {
		l = append(l, mayAll(append(append(around(0, places...), around(0x0123456789ABCDEF, places...)...), around(all, places...)...)))
	}
	return append(l, mixed())
}

// mixed answers scalars far from one another: small ones, and such as stand at the edges of 32 and 64 bits.
func mixed() []api.Scalar {
	var l []api.Scalar
	for _, n := range []uint64{0, 1, 2, 7, 8, 31, 100, top32 - 1, top32, low32 - 1, low32, low32 + 1, low32 + 8, top - 1, top, top + 1, all - 1, all} {
		l = append(l, one(n), is(n&^5, 5, n&^5, n|5), is(0, all, n, n+1), is(0, all, n-2, n+1), is(n&1, all-1, n-1, n+3))
	}
	return mayAll(l)
}

// draws answers numbers that look like chance, the same ones at each run.
func draws() func() uint64 {
	state := uint64(17)
	return func() uint64 {
		state += 0x9E3779B97F4A7C15
		n := (state ^ state>>30) * 0xBF58476D1CE4E5B9
		n = (n ^ n>>27) * 0x94D049BB133111EB
		return n ^ n>>31
	}
}

// drawn answers a scalar of few, of half or of many unknown bits, often of small numbers, that may be.
func drawn(draw func() uint64) api.Scalar {
	for {
		mask := draw()
		switch draw() % 4 {
		case 0:
			mask &= draw() & draw()
		case 1:
			mask |= draw() | draw()
		case 2:
			mask = 0
		}
		width := draw() % 64
		t := api.Tnum{Value: draw() &^ mask >> width, Mask: mask >> width}
		m, n := draw()>>width, draw()>>width
		if draw()%3 == 0 {
			m = 0
		}
		if s, ok := narrowed(api.Scalar{Tnum: t, Min: min(m, n), Max: max(m, n)}); ok {
			return s
		}
	}
}
