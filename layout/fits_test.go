package layout_test

import (
	"math"
	"testing"

	"portcullis/api"
	"portcullis/layout"
)

// 7.3: keys and values of just the map's sizes fit, others do not.
func TestFitsSizes(t *testing.T) {
	l := example()
	sizes := []int{0, 4, 8, 24, 8, 8, 16, 80, 0, 80, 80, 8, 0}
	for key, keyBytes := range sizes {
		for value, valueBytes := range sizes {
			wantFits(t, l, key, value, keyBytes, valueBytes, api.OK)
			for _, more := range []int{1, -1, 1 << 32, math.MinInt} {
				wantFits(t, l, key, value, keyBytes+more, valueBytes, api.ErrType)
				wantFits(t, l, key, value, keyBytes, valueBytes+more, api.ErrType)
				wantFits(t, l, key, value, keyBytes+more, valueBytes+more, api.ErrType)
			}
			if keyBytes != valueBytes {
				wantFits(t, l, key, value, valueBytes, keyBytes, api.ErrType)
			}
		}
	}
}

// 7.3: 0 stands for the size 0, and for no other one.
func TestFitsNothing(t *testing.T) {
	for _, l := range [][]api.BtfType{nil, {}, example()} {
		wantFits(t, l, 0, 0, 0, 0, api.OK)
		for _, n := range []int{math.MinInt, -1, 1, 4, 8, math.MaxInt} {
			wantFits(t, l, 0, 0, n, 0, api.ErrType)
			wantFits(t, l, 0, 0, 0, n, api.ErrType)
		}
	}
	wantFits(t, example(), 0, 1, 0, 4, api.OK)
	wantFits(t, example(), 1, 0, 4, 0, api.OK)
	wantFits(t, example(), 0, 1, 4, 0, api.ErrType)
	wantFits(t, example(), 0, 1, 4, 4, api.ErrType)
	wantFits(t, example(), 1, 0, 0, 4, api.ErrType)
}

// 7.3: numbers that no type has, of the key or the value; that goes ahead of sizes.
func TestFitsNoType(t *testing.T) {
	for _, l := range [][]api.BtfType{nil, example()} {
		for _, id := range noIds(len(l)) {
			for _, other := range []int{-1, 0, len(l), len(l) + 1} {
				for _, n := range []int{0, 4, 8} {
					wantFits(t, l, id, other, n, n, api.ErrArg)
					wantFits(t, l, other, id, n, n, api.ErrArg)
				}
			}
		}
	}
	// a key that does not fit beside a value that is no type
	wantFits(t, example(), 1, 13, 99, 0, api.ErrArg)
	wantFits(t, example(), 0, -1, 99, 0, api.ErrArg)
	wantFits(t, example(), 13, 1, 0, 99, api.ErrArg)
}

// 7.3: what Check refuses goes ahead of all.
func TestFitsRefused(t *testing.T) {
	l := list(integer(4), integer(3))
	for _, id := range []int{-1, 0, 1, 2, 3} {
		for _, n := range []int{0, 3, 4} {
			wantFits(t, l, id, 1, n, 4, api.ErrType)
			wantFits(t, l, 1, id, 4, n, api.ErrType)
		}
	}
}

// 7.3: Fits of drawn types tells what their sizes do.
func TestFitsAgainstSizes(t *testing.T) {
	draw := draws()
	for range 3000 {
		l := drawTypes(draw, 8)
		if _, e := layout.Check(l); e != api.OK {
			continue
		}
		key, value := int(draw()%uint64(len(l)+1)), 1+int(draw()%uint64(len(l)))
		keyBytes, keyErr := layout.Size(l, key)
		valueBytes, valueErr := layout.Size(l, value)
		if (keyErr == api.OK) != (key > 0) || valueErr != api.OK {
			t.Fatalf("Size(%v): errors %d, %d", short(l), keyErr, valueErr)
		}
		wantFits(t, l, key, value, keyBytes, valueBytes, api.OK)
		wantFits(t, l, key, value, keyBytes+1, valueBytes, api.ErrType)
		wantFits(t, l, key, value, keyBytes, valueBytes+1, api.ErrType)
	}
}
