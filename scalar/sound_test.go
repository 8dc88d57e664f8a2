package scalar_test

import (
	"testing"

	"portcullis/alu"
	"portcullis/api"
	"portcullis/scalar"
)

// known is a scalar, and all its numbers.
type known struct {
	s       api.Scalar
	numbers []uint64
}

// withNumbers answers those of these scalars that have few numbers, but one at least.
func withNumbers(scalars []api.Scalar) []known {
	var l []known
	for _, s := range scalars {
		if !few(s) {
			continue
		}
		if n := numbers(s); len(n) > 0 {
			l = append(l, known{s, n})
		}
	}
	return l
}

// soundBin looks whether each op's answer may be and has all that alu makes of a number of a and one of b.
func soundBin(t *testing.T, a, b known) {
	t.Helper()
	for _, op := range binOps {
		for _, wide := range []bool{true, false} {
			for _, signed := range signs(op) {
				got, err := scalar.Bin(op, wide, signed, a.s, b.s)
				if err != api.OK || !scalar.Check(got) {
					t.Errorf("Bin(%d, wide %v, signed %v, %#x, %#x): %#x, error %d; want one that may be", op, wide, signed, a.s, b.s, got, err)
				}
				if n, ok := missed(op, wide, signed, a, b, got); ok {
					t.Errorf("Bin(%d, wide %v, signed %v, %#x, %#x): %#x, without %#x", op, wide, signed, a.s, b.s, got, n)
				}
			}
		}
	}
}

// missed finds a number that alu makes of one of a and one of b, and that got has not.
func missed(op int, wide, signed bool, a, b known, got api.Scalar) (uint64, bool) {
	for _, x := range a.numbers {
		for _, y := range b.numbers {
			n, _ := alu.Bin(op, wide, signed, x, y)
			if (got.Tnum.Value^n)&^got.Tnum.Mask != 0 || n < got.Min || n > got.Max {
				return n, true
			}
		}
	}
	return 0, false
}

// soundPairs looks at each pair of two lists.
func soundPairs(t *testing.T, left, right []known) {
	t.Helper()
	for _, a := range left {
		for _, b := range right {
			soundBin(t, a, b)
		}
		if t.Failed() {
			return
		}
	}
}

// 16.5, T8: whatever numbers a and b stand for, what alu makes of them is one of Bin's answer.
func TestBinSound(t *testing.T) {
	for _, l := range families() {
		l := withNumbers(l)
		if len(l) < 20 {
			t.Fatalf("a family of %d alone", len(l))
		}
		soundPairs(t, l, l)
	}
}

// 16.5, T8: likewise each of them beside small and edge ones.
func TestBinSoundMixed(t *testing.T) {
	edge := withNumbers(mixed())
	for _, l := range families() {
		for i, a := range withNumbers(l) {
			if i%5 == 0 {
				soundPairs(t, []known{a}, edge)
				soundPairs(t, edge, []known{a})
			}
		}
		if t.Failed() {
			return
		}
	}
}

// anywhere answers a scalar with a few unknown bits anywhere, and bounds near its numbers.
func anywhere(draw func() uint64) api.Scalar {
	mask := uint64(0)
	for range draw() % 5 {
		mask |= 1 << (draw() % 64)
	}
	value := draw() >> (draw() % 64)
	if draw()%3 == 0 {
		value = ^value
	}
	value &^= mask
	m, n := value|draw()&mask, value|draw()&mask
	return is(value, mask, min(m, n)-draw()%2, max(m, n)+draw()%2)
}

// between answers a scalar of near bounds, of which no other bits are known.
func between(draw func() uint64) api.Scalar {
	least := draw() >> (draw() % 64)
	return is(0, all, least, least+draw()%12)
}

// 16.5, T8: likewise of scalars whose few unknown bits stand anywhere, and of such whose bounds tell all.
func TestBinSoundDrawn(t *testing.T) {
	draw := draws()
	var l []api.Scalar
	for range 110 {
		l = append(l, anywhere(draw), between(draw))
	}
	drawn := withNumbers(mayAll(l))
	if len(drawn) < 100 {
		t.Fatalf("%d drawn alone", len(drawn))
	}
	soundPairs(t, drawn, drawn)
}
