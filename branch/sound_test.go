package branch_test

import (
	"testing"

	"portcullis/api"
	"portcullis/branch"
	"portcullis/scalar"
)

// listed is a scalar, and all its numbers.
type listed struct {
	s       api.Scalar
	numbers []uint64
}

// withNumbers answers those of these scalars that have few numbers, but one at least.
func withNumbers(scalars []api.Scalar) []listed {
	var l []listed
	for _, s := range scalars {
		if !few(s) {
			continue
		}
		if n := numbers(s); len(n) > 0 {
			l = append(l, listed{s, n})
		}
	}
	return l
}

// truths tells how many pairs of a's and b's numbers the test is true of, and one of them that Refine's answer lacks.
func truths(op int, wide bool, a, b listed, first, second api.Scalar) (count int, lost [][2]uint64) {
	for _, x := range a.numbers {
		for _, y := range b.numbers {
			if !holds(op, wide, x, y) {
				continue
			}
			count++
			if lost == nil && (!has(first, x) || !has(second, y)) {
				lost = [][2]uint64{{x, y}}
			}
		}
	}
	return count, lost
}

// sound looks whether what Refine and Always tell is so for each number of a and each of b.
func sound(t *testing.T, op int, wide bool, a, b listed) {
	first, second, may := branch.Refine(op, wide, a.s, b.s)
	count, lost := truths(op, wide, a, b, first, second)
	if !may && count > 0 || may && lost != nil {
		t.Errorf("Refine(%d, wide %v, %#x, %#x): %#x, %#x, %v; true of %d pairs, without %#x", op, wide, a.s, b.s, first, second, may, count, lost)
	}
	if may && !(within(first, a.s) && within(second, b.s)) {
		t.Errorf("Refine(%d, wide %v, %#x, %#x): %#x, %#x; want them within", op, wide, a.s, b.s, first, second)
	}
	if !may && (first != api.Scalar{} || second != api.Scalar{}) {
		t.Errorf("Refine(%d, wide %v, %#x, %#x): %#x, %#x beside false", op, wide, a.s, b.s, first, second)
	}
	pairs := len(a.numbers) * len(b.numbers)
	is, known := branch.Always(op, wide, a.s, b.s)
	if is && !known || known && is && count < pairs || known && !is && count > 0 {
		t.Errorf("Always(%d, wide %v, %#x, %#x): %v, %v; true of %d of %d pairs", op, wide, a.s, b.s, is, known, count, pairs)
	}
}

// within tells whether what is left of s may be, and lies within what s was.
func within(left, s api.Scalar) bool {
	return left.Min >= s.Min && left.Max <= s.Max && left.Tnum.Mask&^s.Tnum.Mask == 0 && (left.Tnum.Value^s.Tnum.Value)&^s.Tnum.Mask == 0 && scalar.Check(left)
}

// soundPairs looks at each pair of two lists, by each op.
func soundPairs(t *testing.T, left, right []listed) {
	t.Helper()
	for _, a := range left {
		for _, b := range right {
			for _, op := range ops {
				sound(t, op, true, a, b)
				sound(t, op, false, a, b)
			}
		}
		if t.Failed() {
			return
		}
	}
}

// some answers about so many of a list, evenly.
func some[T any](l []T, count int) []T {
	var few []T
	for i := 0; i < len(l); i += max(1, len(l)/count) {
		few = append(few, l[i])
	}
	return few
}

// 17.4, T8: of scalars near 0, 2^31, 2^32, 2^63, 2^64 - 1, and with few unknown bits at those places.
func TestSound(t *testing.T) {
	for _, l := range families() {
		l := withNumbers(l)
		if len(l) < 20 {
			t.Fatalf("a family of %d alone", len(l))
		}
		soundPairs(t, some(l, 60), some(l, 60))
	}
}

// 17.4, T8: of scalars far from one another.
func TestSoundMixed(t *testing.T) {
	edge := withNumbers(mixed())
	for _, l := range families() {
		l := some(withNumbers(l), 25)
		soundPairs(t, l, edge)
		soundPairs(t, edge, l)
	}
}

// anywhere answers a scalar with a few unknown bits anywhere, and bounds near its numbers.
func anywhere(draw func() uint64) api.Scalar {
	mask := uint64(0)
	for range draw() % 5 {
		mask |= 1 << (draw() % 64)
	}
	value := draw() >> (draw() % 64)
	if draw()%3 == 0 {
		value = ^value
	}
	value &^= mask
	m, n := value|draw()&mask, value|draw()&mask
	return is(value, mask, min(m, n)-draw()%2, max(m, n)+draw()%2)
}

// between answers a scalar of near bounds, of which no other bits are known.
func between(draw func() uint64) api.Scalar {
	least := draw() >> (draw() % 64)
	return is(0, all, least, least+draw()%12)
}

// 17.4, T8: of scalars whose few unknown bits stand anywhere, and of such whose bounds tell all.
func TestSoundDrawn(t *testing.T) {
	draw := draws()
	var l []api.Scalar
	for range 65 {
		l = append(l, anywhere(draw), between(draw))
	}
	drawn := withNumbers(mayAll(l))
	if len(drawn) < 100 {
		t.Fatalf("%d drawn alone", len(drawn))
	}
	soundPairs(t, drawn, drawn)
}
