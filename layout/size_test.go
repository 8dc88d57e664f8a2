package layout_test

import (
	"math"
	"slices"
	"testing"

	"portcullis/api"
	"portcullis/layout"
)

// noIds are numbers that no type of n has, nor nothing.
func noIds(n int) []int {
	return []int{math.MinInt, -1 << 32, -2, -1, n + 1, n + 2, 1 << 31, 1<<32 + 1, math.MaxInt}
}

// wantSizes looks at the sizes of all types of l, in their order.
func wantSizes(t *testing.T, l []api.BtfType, want ...int) {
	t.Helper()
	wantSize(t, l, 0, 0, api.ErrType)
	wantEach(t, l, wantSize, want)
}

// wantStrips looks whither all types of l lead, in their order.
func wantStrips(t *testing.T, l []api.BtfType, want ...int) {
	t.Helper()
	wantStrip(t, l, 0, 0, api.OK)
	wantEach(t, l, wantStrip, want)
}

// wantEach looks at each type of l, and at numbers that none has.
func wantEach(t *testing.T, l []api.BtfType, look func(*testing.T, []api.BtfType, int, int, api.Errno), want []int) {
	t.Helper()
	if len(l) != len(want) {
		t.Fatalf("%d numbers are due of %d types", len(want), len(l))
	}
	for k, n := range want {
		look(t, l, k+1, n, api.OK)
	}
	for _, id := range noIds(len(l)) {
		look(t, l, id, 0, api.ErrArg)
	}
}

// 7.2: sizes and ends of the chapter's types and more.
func TestSizeExample(t *testing.T) {
	wantSizes(t, example(), 4, 8, 24, 8, 8, 16, 80, 0, 80, 80, 8, 0)
	wantStrips(t, example(), 1, 2, 3, 2, 5, 6, 10, 8, 10, 10, 11, 12)
}

// 7.2: no types, of which nothing alone may be asked.
func TestSizeNoTypes(t *testing.T) {
	wantSizes(t, nil)
	wantStrips(t, nil)
	wantSizes(t, []api.BtfType{})
	wantStrips(t, []api.BtfType{})
}

// 7.2: each kind alone.
func TestSizeKinds(t *testing.T) {
	for _, n := range []int{1, 2, 4, 8} {
		wantSizes(t, list(integer(n)), n)
		wantStrips(t, list(integer(n)), 1)
	}
	for _, to := range []int{0, 1} {
		wantSizes(t, list(pointer(to)), 8)
		wantStrips(t, list(pointer(to)), 1)
	}
	for _, n := range []int{0, 1, 3, 7, 65535, 65536} {
		wantSizes(t, list(structure(n)), n)
		wantStrips(t, list(structure(n)), 1)
		wantSizes(t, list(integer(8), array(1, n)), 8, 8*n)
		wantStrips(t, list(integer(8), array(1, n)), 1, 2)
		wantSizes(t, list(array(2, n), structure(0)), 0, 0)
		wantSizes(t, list(typedef(2), structure(n)), n, n)
		wantStrips(t, list(typedef(2), structure(n)), 2, 2)
	}
}

// 7.2: a struct's size is its own, whatever its members have.
func TestSizeStructs(t *testing.T) {
	wantSizes(t, list(integer(4), structure(100, member("a", 1, 0)), structure(4, member("a", 1, 0)), structure(65536, member("a", 3, 9))), 4, 100, 4, 65536)
}

// 7.2: a pointer's size is 8, wherever it leads.
func TestSizePointers(t *testing.T) {
	wantSizes(t, list(integer(1), structure(65536), array(2, 16), pointer(0), pointer(1), pointer(2), pointer(3), pointer(7), pointer(8), pointer(10)),
		1, 65536, 1<<20, 8, 8, 8, 8, 8, 8, 8)
}

// 7.2: arrays of each kind, and of each other.
func TestSizeArrays(t *testing.T) {
	wantSizes(t, list(integer(2), array(1, 5), array(2, 7), array(3, 0), array(4, 9), pointer(3), array(6, 3), typedef(3), array(8, 2), structure(3), array(10, 11)),
		2, 10, 70, 0, 0, 8, 24, 70, 140, 3, 33)
	wantSizes(t, list(array(2, 1024), array(3, 1024), integer(1)), 1<<20, 1024, 1)
	wantSizes(t, list(array(2, 65536), array(3, 2), integer(8)), 1<<20, 16, 8)
}

// 7.2: typedefs of typedefs lead to a struct, an array, a pointer, an int; behind those none is followed.
func TestStripTypedefs(t *testing.T) {
	l := list(
		typedef(2), typedef(3), typedef(4), structure(5),
		typedef(6), array(1, 2), typedef(5),
		typedef(9), pointer(8), typedef(11), integer(2), typedef(10), typedef(12),
		structure(40, member("a", 1, 0)),
	)
	wantStrips(t, l, 4, 4, 4, 4, 6, 6, 6, 9, 9, 11, 11, 11, 11, 14)
	wantSizes(t, l, 5, 5, 5, 5, 10, 10, 10, 8, 8, 2, 2, 2, 2, 40)
}

// 7.2: the longest chain of typedefs.
func TestStripLongChain(t *testing.T) {
	l := make([]api.BtfType, api.MaxTypes)
	for k := range l {
		l[k] = typedef(k + 2)
	}
	l[api.MaxTypes-1] = array(0, 3)
	wantWrong(t, l, api.MaxTypes)
	l[api.MaxTypes-1] = structure(333)
	for _, id := range []int{1, 2, 500, api.MaxTypes - 1, api.MaxTypes} {
		wantStrip(t, l, id, api.MaxTypes, api.OK)
		wantSize(t, l, id, 333, api.OK)
	}
	wantStrip(t, l, api.MaxTypes+1, 0, api.ErrArg)
	wantSize(t, l, api.MaxTypes+1, 0, api.ErrArg)
}

// 7.2: what Check refuses goes ahead of a number that no type has, and holds for types that are well themselves.
func TestSizeRefused(t *testing.T) {
	for _, l := range [][]api.BtfType{
		list(integer(4), integer(3)),
		list(integer(4), typedef(2)),
		list(structure(65536), array(1, 17)),
		list(integer(4), structure(3, member("a", 1, 0))),
	} {
		wantWrong(t, l, 2)
	}
	wantWrong(t, slices.Repeat([]api.BtfType{integer(4)}, api.MaxTypes+1), 0)
}

// 7.2: Size and Strip of drawn types are the model's.
func TestSizeAgainstModel(t *testing.T) {
	draw := draws()
	well := 0
	for range 8000 {
		l := drawTypes(draw, 14)
		if _, e := layout.Check(l); e != api.OK {
			continue
		}
		well++
		for id := 1; id <= len(l); id++ {
			wantSize(t, l, id, int(model(l).size(id).Int64()), api.OK)
			wantStrip(t, l, id, model(l).strip(id), api.OK)
		}
	}
	if well < 800 {
		t.Errorf("%d of 8000 are well", well)
	}
}
