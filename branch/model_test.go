package branch_test

import (
	"math/big"
	"math/bits"
	"testing"

	"portcullis/api"
	"portcullis/branch"
	"portcullis/scalar"
)

// off is n and so many more, as a number that no sum goes beyond.
func off(n uint64, more int64) *big.Int {
	return new(big.Int).Add(new(big.Int).SetUint64(n), big.NewInt(more))
}

// raised is s with no number below least; false, if there is no number that great.
func raised(s api.Scalar, least *big.Int) (api.Scalar, bool) {
	if !least.IsUint64() {
		return s, false
	}
	s.Min = max(s.Min, least.Uint64())
	return s, true
}

// lowered is s with no number above greatest; false, if there is no number that small.
func lowered(s api.Scalar, greatest *big.Int) (api.Scalar, bool) {
	if !greatest.IsUint64() {
		return s, false
	}
	s.Max = min(s.Max, greatest.Uint64())
	return s, true
}

// ordered tells two of which the first one is greater by so many at least.
func ordered(a, b api.Scalar, by int64) (api.Scalar, api.Scalar, bool) {
	x, left := raised(a, off(b.Min, by))
	y, right := lowered(b, off(a.Max, -by))
	return x, y, left && right
}

// met tells what has the bits that either knows, place by place; false, if they know one otherwise.
func met(a, b api.Tnum) (api.Tnum, bool) {
	var t api.Tnum
	for place := range 64 {
		aKnows, bKnows := a.Mask>>place&1 == 0, b.Mask>>place&1 == 0
		aBit, bBit := a.Value>>place&1, b.Value>>place&1
		switch {
		case aKnows && bKnows && aBit != bBit:
			return t, false
		case !aKnows && !bKnows:
			t.Mask |= 1 << place
		default:
			t.Value |= (aBit | bBit) << place
		}
	}
	return t, true
}

// apart tells a without b's number, where that is one of a's bounds.
func apart(a, b api.Scalar) api.Scalar {
	switch n := b.Tnum.Value; {
	case b.Tnum.Mask != 0:
	case a.Min == n:
		a.Min = n + 1
	case a.Max == n:
		a.Max = n - 1
	}
	return a
}

// bitwise tells what 64 (shared) and 68 make of a, place by place; false, if it may not be.
func bitwise(a, b api.Scalar, shared bool) (api.Scalar, bool) {
	may, must := 0, 0
	for place := range 64 {
		aOne, bOne := a.Tnum.Value>>place&1 == 1, b.Tnum.Value>>place&1 == 1
		aMay, bMay := aOne || a.Tnum.Mask>>place&1 == 1, bOne || b.Tnum.Mask>>place&1 == 1
		if aMay && bMay {
			may++
		}
		if aOne && bOne {
			must++
		}
	}
	if shared && may == 0 || !shared && must > 0 {
		return a, false
	}
	n := b.Tnum.Value
	if b.Tnum.Mask != 0 || shared && bits.OnesCount64(n) != 1 {
		return a, true
	}
	for place := range 64 {
		if n>>place&1 == 0 {
			continue
		}
		a.Tnum.Mask &^= 1 << place
		if shared {
			a.Tnum.Value |= 1 << place
		}
	}
	return a, true
}

// loose tells what an op without signs makes of two, ahead of Tight.
func loose(op int, a, b api.Scalar) (x, y api.Scalar, may bool) {
	switch op {
	case 16:
		x.Tnum, may = met(a.Tnum, b.Tnum)
		x.Min, x.Max = max(a.Min, b.Min), min(a.Max, b.Max)
		return x, x, may
	case 80:
		same := a.Tnum.Mask == 0 && b.Tnum.Mask == 0 && a.Tnum.Value == b.Tnum.Value
		return apart(a, b), apart(b, a), !same
	case 32:
		return ordered(a, b, 1)
	case 48:
		return ordered(a, b, 0)
	case 160:
		y, x, may = ordered(b, a, 1)
	case 176:
		y, x, may = ordered(b, a, 0)
	case 64, 68:
		x, may = bitwise(a, b, op == 64)
		y = b
	}
	return x, y, may
}

// model tells Refine's answer.
func model(op int, wide bool, a, b api.Scalar) (api.Scalar, api.Scalar, bool) {
	width, plain := 64, op
	if !wide {
		width = 32
	}
	if signed(op) {
		width, plain = width-1, map[int]int{96: 32, 112: 48, 192: 160, 208: 176}[op]
	}
	if bits.Len64(a.Max|b.Max) > width {
		return a, b, true
	}
	x, y, may := loose(plain, a, b)
	if may {
		var left, right bool
		x, left = narrowed(x)
		y, right = narrowed(y)
		may = left && right
	}
	if !may {
		return api.Scalar{}, api.Scalar{}, false
	}
	return x, y, true
}

// checkModel holds Refine and Always of a and b, by each op, against the model.
func checkModel(t *testing.T, a, b api.Scalar) {
	t.Helper()
	for _, op := range ops {
		for _, wide := range []bool{true, false} {
			x, y, may := branch.Refine(op, wide, a, b)
			first, second, due := model(op, wide, a, b)
			if x != first || y != second || may != due {
				t.Errorf("Refine(%d, wide %v, %#x, %#x): %#x, %#x, %v; want %#x, %#x, %v", op, wide, a, b, x, y, may, first, second, due)
			}
			_, _, other := model(branch.Not(op), wide, a, b)
			is, known := branch.Always(op, wide, a, b)
			if is != (due && !other) || known != (!due || !other) {
				t.Errorf("Always(%d, wide %v, %#x, %#x): %v, %v; its test may be: %v, the opposite: %v", op, wide, a, b, is, known, due, other)
			}
		}
	}
}

// 17.2, 17.3: each op, of all scalars of three bits, also such as have no number, is the model's.
func TestRefineSmall(t *testing.T) {
	l := small(3)
	for _, a := range l {
		for _, b := range l {
			checkModel(t, a, b)
		}
		if t.Failed() {
			return
		}
	}
}

// 17.2, 17.3: likewise of scalars of four bits beside such of one number.
func TestRefineSmallConst(t *testing.T) {
	for _, a := range small(4) {
		for n := range uint64(17) {
			checkModel(t, a, one(n))
			checkModel(t, one(n), a)
		}
		if t.Failed() {
			return
		}
	}
}

// 17.2, 17.3: likewise of scalars at the edges of 32 and 64 bits, near and far from one another.
func TestRefineFamilies(t *testing.T) {
	for _, l := range families() {
		for _, a := range l {
			for _, b := range some(l, 40) {
				checkModel(t, a, b)
			}
			for _, n := range []uint64{0, 1, a.Min, a.Max, a.Min + 1, a.Max - 1, a.Min - 1, a.Max + 1, a.Tnum.Value, a.Tnum.Mask, top, all} {
				checkModel(t, a, one(n))
				checkModel(t, one(n), a)
			}
			if t.Failed() {
				return
			}
		}
	}
}

// 17.2, 17.3: likewise of many scalars.
func TestRefineDrawn(t *testing.T) {
	draw := draws()
	for range 20000 {
		a, b := drawn(draw), drawn(draw)
		switch draw() % 4 {
		case 0:
			b = one(draw() >> (draw() % 64))
		case 1:
			b = one(a.Min | draw()&a.Tnum.Mask)
		case 2:
			b = one(1 << (draw() % 64))
		}
		checkModel(t, a, b)
		checkModel(t, b, a)
		if t.Failed() {
			return
		}
	}
}

// 17.2: what Refine tells may be, and what Refine of that tells lies within it.
func TestRefineMayBe(t *testing.T) {
	draw := draws()
	for range 20000 {
		a, b := drawn(draw), drawn(draw)
		for _, op := range ops {
			x, y, may := branch.Refine(op, true, a, b)
			if !may {
				continue
			}
			if !scalar.Check(x) || !scalar.Check(y) {
				t.Fatalf("Refine(%d, %#x, %#x): %#x, %#x; want such as may be", op, a, b, x, y)
			}
			if v, w, again := branch.Refine(op, true, x, y); again && (!scalar.In(x, v) || !scalar.In(y, w)) {
				t.Fatalf("Refine(%d, %#x, %#x): %#x, %#x; want them within", op, x, y, v, w)
			}
		}
	}
}

// R1: every call ends, and none panics, whatever it is given.
func TestCallsEnd(t *testing.T) {
	draw := draws()
	edge := []uint64{0, 1, 31, 32, 63, 64, top32, low32, top, all}
	for range 20000 {
		var n [8]uint64
		for i := range n {
			n[i] = edge[draw()%uint64(len(edge))]
			if draw()%3 == 0 {
				n[i] = draw() >> (draw() % 64)
			}
		}
		a, b := is(n[0], n[1], n[2], n[3]), is(n[4], n[5], n[6], n[7])
		for op := -16; op <= 272; op += 4 {
			for _, wide := range []bool{true, false} {
				x, y, may := branch.Refine(op, wide, a, b)
				if !may && (x != api.Scalar{} || y != api.Scalar{}) {
					t.Fatalf("Refine(%d, wide %v, %#x, %#x): false, with %#x, %#x beside it", op, wide, a, b, x, y)
				}
				if is, known := branch.Always(op, wide, a, b); is && !known {
					t.Fatalf("Always(%d, wide %v, %#x, %#x): true, and not known", op, wide, a, b)
				}
			}
		}
	}
}
