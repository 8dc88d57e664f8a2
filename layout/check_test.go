package layout_test

import (
	"math"
	"slices"
	"strconv"
	"testing"

	"portcullis/api"
	"portcullis/layout"
)

// 7.1: no types are well, and so are the chapter's.
func TestCheckExamples(t *testing.T) {
	wantWell(t, nil)
	wantWell(t, []api.BtfType{})
	wantWell(t, example())
	wantWell(t, list(pointer(1)))
	wantWrong(t, list(structure(8, member("a", 1, 0))), 1)
	wantWrong(t, list(integer(4), structure(8, member("a", 2, 0))), 2)
}

// 7.1: an int's Size.
func TestCheckInts(t *testing.T) {
	for _, n := range []int{1, 2, 4, 8} {
		wantWell(t, list(integer(n)))
		wantWell(t, list(integer(8), integer(n), integer(1)))
	}
	for _, n := range []int{math.MinInt, -8, -4, -2, -1, 0, 3, 5, 6, 7, 9, 10, 16, 32, 64, 1 << 16, 1 << 20, 1<<32 + 4, math.MaxInt} {
		wantWrong(t, list(integer(n)), 1)
		wantWrong(t, list(integer(8), integer(n), integer(1)), 2)
	}
}

// 7.1: a Kind that is none of the five, whatever its numbers are.
func TestCheckKinds(t *testing.T) {
	for kind := -3; kind < 40; kind++ {
		one := api.BtfType{Kind: kind, Name: "k", Size: 4, Type: 1, Count: 1}
		l := list(integer(4), one)
		if slices.Contains([]int{1, 2, 3, 4, 8}, kind) {
			wantWell(t, l)
		} else {
			wantWrong(t, l, 2)
			wantWrong(t, list(one, integer(4)), 1)
			wantWrong(t, list(api.BtfType{Kind: kind}), 1)
		}
	}
	for _, kind := range []int{math.MinInt, 257, 1<<32 + 1, math.MaxInt} {
		wantWrong(t, list(api.BtfType{Kind: kind, Size: 4}), 1)
	}
}

// leading answers a type of each kind that has a Type, that which leads to id.
func leading(id int) []api.BtfType {
	return []api.BtfType{pointer(id), typedef(id), array(id, 2), structure(65536, member("m", id, 0)), structure(65536, member("k", 1, 0), member("m", id, 8))}
}

// 7.1: a Type at its edges: to nothing only a pointer leads, behind the list's end none.
func TestCheckTypes(t *testing.T) {
	for n := 1; n < 5; n++ {
		l := slices.Repeat([]api.BtfType{integer(8)}, n)
		l = append(l, api.BtfType{}, integer(4))
		last := len(l)
		for _, id := range []int{math.MinInt, -1 << 32, -2, -1, 0, 1, n, last, last + 1, last + 2, 1024, 1<<32 + 1, math.MaxInt} {
			for _, one := range leading(id) {
				l[n] = one
				if 1 <= id && id <= last || id == 0 && one.Kind == api.BtfPtr {
					wantWell(t, l)
				} else {
					wantWrong(t, l, n+1)
				}
			}
		}
	}
}

// 7.1: a Type, where there is one type alone: only a pointer leads to itself.
func TestCheckTypesOfOne(t *testing.T) {
	for _, id := range []int{-1, 0, 1, 2} {
		for _, one := range leading(id) {
			if one.Kind == api.BtfPtr && (id == 0 || id == 1) {
				wantWell(t, list(one))
			} else {
				wantWrong(t, list(one), 1)
			}
		}
	}
}

// 7.1: an array's Count, and a struct's Size.
func TestCheckCountsAndSizes(t *testing.T) {
	for _, n := range []int{0, 1, 2, 255, 65535, 65536} {
		wantWell(t, list(integer(1), array(1, n)))
		wantWell(t, list(structure(n)))
	}
	for _, n := range []int{math.MinInt, -1 << 32, -65536, -2, -1, 65537, 65538, 1 << 17, 1 << 20, 1 << 31, 1 << 32, 1<<32 + 1, math.MaxInt} {
		wantWrong(t, list(integer(1), array(1, n)), 2)
		wantWrong(t, list(structure(n)), 1)
		// of an element of no bytes, too
		wantWrong(t, list(structure(0), array(1, n)), 2)
	}
}

// 7.1: an Off is 0 or above, and divided by 8.
func TestCheckOffs(t *testing.T) {
	at := func(off int) []api.BtfType {
		return list(integer(1), structure(65536, api.BtfMember{Name: "k", Type: 1}, api.BtfMember{Name: "m", Type: 1, Off: off}))
	}
	for off := -20; off < 40; off++ {
		if off >= 0 && off%8 == 0 {
			wantWell(t, at(off))
		} else {
			wantWrong(t, at(off), 2)
		}
	}
	wantWell(t, at(8*65535))
	for _, off := range []int{math.MinInt, -1 << 32, -8 * 65535, 8*65535 + 1, 8*65535 - 1, 8 * 65536, 1 << 31, 1 << 32, math.MaxInt - 7, math.MaxInt} {
		wantWrong(t, at(off), 2)
	}
}

// 7.1: what looks at Off by itself goes ahead of all types' sizes, what looks whether it lies within comes behind them.
func TestCheckOffsAhead(t *testing.T) {
	with := func(off int) []api.BtfType {
		return list(array(3, 65536), structure(0, api.BtfMember{Type: 3, Off: off}), structure(65536))
	}
	for _, off := range []int{-8, 1, 4, 7, 9, math.MinInt, math.MaxInt} {
		wantWrong(t, with(off), 2)
	}
	for _, off := range []int{0, 8, 1 << 40, math.MaxInt - 7} {
		wantWrong(t, with(off), 1)
	}
}

// 7.1: names play no part, nor does what a kind does not name.
func TestCheckOtherFields(t *testing.T) {
	wrong := []api.BtfMember{{Name: "m", Type: 99, Off: -1}}
	for _, n := range []int{-1, 3, 65537, math.MaxInt} {
		wantWell(t, list(
			api.BtfType{Kind: api.BtfInt, Size: 4, Type: n, Count: n, Members: wrong},
			api.BtfType{Kind: api.BtfPtr, Size: n, Type: 2, Count: n, Members: wrong},
			api.BtfType{Kind: api.BtfTypedef, Size: n, Type: 1, Count: n, Members: wrong},
			api.BtfType{Kind: api.BtfArray, Size: n, Type: 1, Count: 4, Members: wrong},
			api.BtfType{Kind: api.BtfStruct, Size: 16, Type: n, Count: n, Members: []api.BtfMember{member("m", 4, 0)}},
		))
	}
	for _, name := range []string{"", "9", "a b", "\xff"} {
		l := example()
		for k := range l {
			l[k].Name = name
			for j := range l[k].Members {
				l[k].Members[j].Name = name
			}
		}
		wantWell(t, l)
	}
}

// 7.1: of two in the same look the first one is told, and of two looks the first look's.
func TestCheckOrder(t *testing.T) {
	// What is wrong with a type, look by look; the types 1 and 2 are an int, and an array too large to be one's element.
	wrong := [][]func(id int) api.BtfType{
		{
			func(int) api.BtfType { return integer(3) },
			func(int) api.BtfType { return pointer(-1) },
			func(int) api.BtfType { return typedef(0) },
			func(int) api.BtfType { return array(1, -1) },
			func(int) api.BtfType { return structure(65537) },
			func(int) api.BtfType { return structure(8, api.BtfMember{Type: 1, Off: 4}) },
			func(int) api.BtfType { return api.BtfType{} },
		},
		{
			func(id int) api.BtfType { return typedef(id) },
			func(id int) api.BtfType { return array(id, 0) },
			func(id int) api.BtfType { return array(id, 65536) },
			func(id int) api.BtfType { return holding(id) },
		},
		{
			func(int) api.BtfType { return array(2, 65536) },
			func(int) api.BtfType { return array(2, 65) },
		},
		{
			func(int) api.BtfType { return structure(7, member("m", 1, 0)) },
			func(int) api.BtfType { return structure(8, member("k", 1, 0), member("m", 1, 1)) },
			func(int) api.BtfType { return structure(65536, member("m", 2, 65536)) },
		},
	}
	for look, ones := range wrong {
		for later := look; later < len(wrong); later++ {
			for _, a := range ones {
				for _, b := range wrong[later] {
					l := list(integer(8), array(1, 2048), integer(1), pointer(4), integer(2), pointer(1))
					l[3-1], l[5-1] = a(3), b(5)
					wantWrong(t, l, 3)
					l[3-1], l[5-1] = b(3), a(5)
					at := 5
					if look == later {
						at = 3
					}
					wantWrong(t, l, at)
				}
			}
		}
	}
}

// ring answers n types that hold each other in a ring, the first one the second, the last one the first, behind ahead others.
func ring(n, ahead int, link func(to int) api.BtfType) []api.BtfType {
	l := slices.Repeat([]api.BtfType{integer(4)}, ahead)
	for k := range n {
		l = append(l, link(ahead+1+(k+1)%n))
	}
	return l
}

// links answers a type of each kind that may hold another one, which it holds.
func links() []func(to int) api.BtfType {
	return []func(to int) api.BtfType{
		typedef,
		func(to int) api.BtfType { return array(to, 0) },
		func(to int) api.BtfType { return array(to, 1) },
		func(to int) api.BtfType { return array(to, 65536) },
		func(to int) api.BtfType { return holding(to) },
		func(to int) api.BtfType { return structure(65536, member("m", to, 100), member("n", to, 0)) },
	}
}

// 7.1: types that hold themselves over one, two and many; a pointer in their midst holds nothing.
func TestCheckHolds(t *testing.T) {
	for _, link := range links() {
		for _, n := range []int{1, 2, 3, 7, 100, 1000} {
			for _, ahead := range []int{0, 1, 5} {
				l := ring(n, ahead, link)
				wantWrong(t, l, ahead+1)
				if n > 100 {
					continue
				}
				l[ahead] = pointer(l[ahead].Type)
				wantNotHeld(t, l)
				l = ring(n, ahead, link)
				l[len(l)-1] = pointer(ahead + 1)
				wantNotHeld(t, l)
			}
		}
	}
	for _, n := range []int{1, 2, 3, 100, api.MaxTypes} {
		wantWell(t, ring(n, 0, pointer))
	}
}

// wantNotHeld looks whether Check tells what the model does, which finds none that holds itself.
func wantNotHeld(t *testing.T, l []api.BtfType) {
	t.Helper()
	for id := range l {
		if slices.Contains(model(l).led(id+1), id+1) {
			t.Fatalf("the type %d of %v holds itself", id+1, short(l))
		}
	}
	wantAsModel(t, l)
}

// wantAsModel looks whether Check tells what the model does.
func wantAsModel(t *testing.T, l []api.BtfType) api.Errno {
	t.Helper()
	at, e := model(l).check()
	if got, gotErr := layout.Check(l); got != at || gotErr != e {
		t.Errorf("Check(%v): %d, error %d; want %d, error %d", short(l), got, gotErr, at, e)
	}
	return e
}

// 7.1: rings of several kinds at once, in which the pointer alone is a way out.
func TestCheckMixedRings(t *testing.T) {
	wantWrong(t, list(typedef(2), array(3, 2), holding(1)), 1)
	wantWrong(t, list(integer(1), holding(3), typedef(4), array(2, 0)), 2)
	wantWrong(t, list(structure(8, member("a", 2, 0), member("b", 3, 0)), integer(8), typedef(1)), 1)
	wantWell(t, list(structure(8, member("a", 2, 0)), pointer(3), typedef(1)))
	wantWell(t, list(structure(16, member("a", 2, 0), member("b", 2, 8)), pointer(1)))
	wantWell(t, list(array(2, 3), pointer(1)))
	wantWell(t, list(typedef(2), pointer(1)))
	// a member that is not the first one
	wantWrong(t, list(integer(1), structure(9, member("a", 1, 0), member("b", 1, 1), member("c", 2, 0))), 2)
	wantWrong(t, list(integer(1), structure(9, member("a", 3, 0), member("b", 2, 1)), integer(2)), 2)
}

// 7.1: what leads to one that holds itself, or is led to by it, does not hold itself, wherever it stands.
func TestCheckLeadsToRing(t *testing.T) {
	wantWrong(t, list(typedef(2), typedef(2)), 2)
	wantWrong(t, list(typedef(2), typedef(3), typedef(4), typedef(3)), 3)
	wantWrong(t, list(array(3, 1), holding(1, 3), typedef(4), array(3, 0)), 3)
	wantWrong(t, list(holding(4, 2), integer(1), holding(1), holding(2, 3, 5), holding(4)), 1)
	wantWrong(t, list(integer(1), holding(1, 3), holding(1, 2, 4), typedef(1)), 2)
	// between two rings, in either order
	wantWrong(t, list(holding(2), typedef(3), holding(3)), 3)
	wantWrong(t, list(holding(2, 3), typedef(3), holding(3, 4), holding(4)), 3)
	wantWrong(t, list(holding(2), typedef(4), holding(3, 2), holding(4)), 3)
	wantWrong(t, list(holding(2), typedef(3), integer(1), holding(1, 5), holding(4)), 4)
}

// 7.1: the first one that holds itself may be found last: it is met behind others of its ring.
func TestCheckFirstOfRing(t *testing.T) {
	// 1 leads to 5, from which 4 is met ahead of 3.
	wantWrong(t, list(typedef(5), integer(1), holding(4), holding(5), holding(4, 3)), 3)
	wantWrong(t, list(holding(5), integer(1), holding(4), holding(5), holding(4, 3)), 3)
	wantWrong(t, list(holding(6, 5), integer(1), holding(4), holding(5), holding(4, 3), holding(6)), 3)
	// Two rings that share one type, and a ring that is met behind another.
	wantWrong(t, list(holding(4), holding(4), holding(4), holding(2, 3)), 2)
	wantWrong(t, list(holding(5, 3), integer(2), holding(4), holding(3), holding(2, 6), holding(5)), 3)
}

// 7.1: rings as the model finds them, of few types that hold some of each other.
func TestCheckRingsAgainstModel(t *testing.T) {
	draw := draws()
	for range 6000 {
		n := 1 + draw()%9
		l := make([]api.BtfType, n)
		for k := range l {
			l[k] = drawHolding(draw, int(n))
		}
		wantAsModel(t, l)
	}
}

// drawHolding answers a type that holds some of n types, or none.
func drawHolding(draw func() uint64, n int) api.BtfType {
	id := func() int { return 1 + int(draw()%uint64(n)) }
	switch draw() % 8 {
	case 0:
		return typedef(id())
	case 1:
		return array(id(), int(draw()%2))
	case 2:
		return pointer(id())
	case 3, 4:
		return integer(1)
	case 5:
		return holding(id())
	case 6:
		return holding(id(), id())
	}
	return structure(16)
}

// 7.1: a size is at most 2^20, of an array and of what is made of it.
func TestCheckLarge(t *testing.T) {
	for _, c := range []struct {
		l  []api.BtfType
		at int
	}{
		{list(integer(8), array(1, 65536)), 0},
		{list(structure(16), array(1, 65536)), 0},
		{list(structure(17), array(1, 65536)), 2},
		{list(structure(17), array(1, 61680)), 0},
		{list(structure(17), array(1, 61681)), 2},
		{list(structure(65536), array(1, 16)), 0},
		{list(structure(65536), array(1, 17)), 2},
		{list(structure(65535), array(1, 16)), 0},
		{list(structure(65535), array(1, 17)), 2},
		{list(integer(1), array(1, 1024), array(2, 1024)), 0},
		{list(integer(1), array(1, 1024), array(2, 1025)), 3},
		{list(integer(1), array(1, 1025), array(2, 1024)), 3},
		{list(integer(1), array(1, 1023), array(2, 1025)), 0},
		{list(integer(8), array(1, 65536), array(2, 2)), 0},
		{list(integer(8), array(1, 65536), array(2, 3)), 3},
		{list(array(2, 3), array(3, 65536), integer(8)), 1},
		{list(array(2, 2), array(3, 65536), integer(8)), 0},
		// over typedefs, which are as large
		{list(typedef(2), array(3, 17), structure(65536)), 1},
		{list(structure(65536), typedef(3), array(1, 17), typedef(2)), 2},
		{list(structure(65536), typedef(3), array(1, 16), typedef(2)), 0},
		{list(structure(65536), array(3, 17), typedef(4), typedef(1)), 2},
		// a pointer to it, and a struct with it, are not large
		{list(pointer(2), array(3, 17), structure(65536)), 2},
		{list(structure(8, member("m", 2, 0)), array(3, 17), structure(65536)), 2},
		{list(pointer(2), array(3, 16), structure(65536)), 0},
		// none of one that is too large are no bytes; the one that is too large is told
		{list(array(2, 0), array(3, 17), structure(65536)), 2},
		{list(array(2, 0), typedef(3), array(4, 17), structure(65536)), 2},
		{list(array(2, 1), array(3, 17), structure(65536)), 1},
		{list(array(2, 65536), array(3, 0), array(4, 17), structure(65536)), 3},
	} {
		if c.at == 0 {
			wantWell(t, c.l)
		} else {
			wantWrong(t, c.l, c.at)
		}
		wantAsModel(t, c.l)
	}
}

// 7.1: products that no number of 64 bits holds are large, those of 0 are not.
func TestCheckLargeProducts(t *testing.T) {
	for _, count := range []int{2, 3, 65535, 65536} {
		for _, n := range []int{3, 4, 5, 16, 17, 64, 65, 500, api.MaxTypes - 1} {
			l := list(structure(65536))
			for k := range n {
				l = append(l, array(k+1, count))
			}
			// 2^16 times 2 n times, or 3 n times; the first one above 2^20
			switch at := map[int]int{2: 6, 3: 4, 65535: 2, 65536: 2}[count]; {
			case at <= len(l):
				wantWrong(t, l, at)
			default:
				wantWell(t, l)
			}
			// from the other end on: the first one is the largest
			back := slices.Clone(l)
			slices.Reverse(back)
			for k := range back {
				back[k].Type = k + 2
			}
			if at, _ := layout.Check(l); at > 0 {
				wantWrong(t, back, 1)
			} else {
				wantWell(t, back)
			}
			// of no bytes
			l[0] = structure(0)
			wantWell(t, l)
			l[0] = structure(65536)
			l[1].Count = 0
			wantWell(t, l)
		}
	}
}

// 7.1: members that end just at their struct's Size, and a byte behind it.
func TestCheckWithin(t *testing.T) {
	types := list(integer(1), integer(8), pointer(7), array(2, 3), typedef(4), array(2, 0), structure(0), structure(5, member("a", 1, 4)))
	for k, size := range []int{1, 8, 8, 24, 24, 0, 0, 5} {
		for _, all := range []int{size, size + 1, size + 40, 65536} {
			for _, m := range []api.BtfMember{member("m", k+1, all-size), member("", k+1, 0)} {
				wantWell(t, append(slices.Clone(types), structure(all, m)))
				wantWell(t, append(slices.Clone(types), structure(all, m, m)))
			}
			for _, m := range []api.BtfMember{member("m", k+1, all-size+1), member("", k+1, 1<<31), member("", k+1, math.MaxInt/8)} {
				wantWrong(t, append(slices.Clone(types), structure(all, m)), len(types)+1)
				wantWrong(t, append(slices.Clone(types), structure(all, member("k", 7, 0), m)), len(types)+1)
				wantWrong(t, append(slices.Clone(types), structure(all, m, member("k", 7, 0))), len(types)+1)
			}
		}
		if size > 0 {
			wantWrong(t, append(slices.Clone(types), structure(size-1, member("m", k+1, 0))), len(types)+1)
			wantWrong(t, append(slices.Clone(types), structure(0, member("m", k+1, 0))), len(types)+1)
		}
	}
}

// 7.1: Off at the greatest number that may be, with a member of any size.
func TestCheckGreatestOff(t *testing.T) {
	for _, of := range []int{1, 2, 3} {
		for _, off := range []int{math.MaxInt - 7, math.MaxInt - 15, 1 << 62, 1 << 40, 1 << 32} {
			l := list(structure(0), integer(8), array(2, 65536), structure(65536, api.BtfMember{Type: of, Off: off}))
			wantWrong(t, l, 4)
		}
	}
}

// 7.1: members may lie over each other, in any order, and have any names.
func TestCheckMembersAnyOrder(t *testing.T) {
	wantWell(t, list(integer(4), structure(8, member("b", 1, 4), member("a", 1, 0), member("a", 1, 2), member("", 1, 0))))
}

// 7.1: as many types as there may be, and more.
func TestCheckMany(t *testing.T) {
	for _, n := range []int{1, 255, 1023, api.MaxTypes} {
		wantWell(t, slices.Repeat([]api.BtfType{integer(4)}, n))
		l := slices.Repeat([]api.BtfType{pointer(n)}, n)
		wantWell(t, l)
		l[n-1].Type++
		wantWrong(t, l, n)
	}
	for _, n := range []int{api.MaxTypes + 1, api.MaxTypes + 2, 2 * api.MaxTypes, 1 << 16} {
		l := slices.Repeat([]api.BtfType{integer(4)}, n)
		wantWrong(t, l, 0)
		// whatever the types are
		l[6] = integer(3)
		wantWrong(t, l, 0)
		l[6] = typedef(7)
		wantWrong(t, l, 0)
	}
}

// 7.1: long chains of each kind, in either direction, and in no order.
func TestCheckChains(t *testing.T) {
	for _, link := range links()[:3] {
		for _, n := range []int{2, 3, 100, api.MaxTypes} {
			rising, falling := make([]api.BtfType, n), make([]api.BtfType, n)
			for k := range n {
				rising[k], falling[k] = link(k+2), link(k)
			}
			rising[n-1], falling[0] = integer(8), integer(8)
			wantWell(t, rising)
			wantWell(t, falling)
			jumping := make([]api.BtfType, n)
			for k := range n {
				// 0, 7, 14 .. modulo n, where 7 and n share no part
				jumping[k*701%n] = link((k+1)*701%n + 1)
			}
			jumping[(n-1)*701%n] = integer(8)
			wantWell(t, jumping)
			jumping[(n-1)*701%n] = link(1)
			wantWrong(t, jumping, 1)
		}
	}
}

// 7.1: structs within structs, of which each one has a member more.
func TestCheckNestedStructs(t *testing.T) {
	l := []api.BtfType{integer(4)}
	for k := 1; k < api.MaxTypes; k++ {
		l = append(l, structure(4*(k+1), member("own", 1, 0), member("inner", k, 4)))
	}
	wantWell(t, l)
	l[700].Size--
	wantWrong(t, l, 701)
	l[700].Size++
	l[700].Members[0].Type = 1000
	wantWrong(t, l, 701)
	l[700].Members[0].Type = 701
	wantWrong(t, l, 701)
}

// 7.1: many that lead to many; each look ends soon.
func TestCheckWide(t *testing.T) {
	const n = api.MaxTypes
	below := func(k int) []int { // all numbers up to k
		var out []int
		for id := 1; id <= k; id++ {
			out = append(out, id)
		}
		return out
	}
	l := make([]api.BtfType, n)
	for k := range l {
		l[k] = holding(below(k)...)
	}
	wantWell(t, l)
	l[1] = holding(1, n)
	wantWrongAt(t, l, 2)
	l[1] = holding(1)
	l[n-1].Members = append(l[n-1].Members, member("self", n, 0))
	wantWrongAt(t, l, n)
	above := make([]api.BtfType, n)
	for k := range above {
		for id := k + 2; id <= n; id++ {
			above[k].Members = append(above[k].Members, member("m", id, 0))
		}
		above[k].Kind = api.BtfStruct
	}
	wantWell(t, above)
	above[n-1].Members = []api.BtfMember{member("m", n, 0)}
	wantWrongAt(t, above, n)
	all := slices.Repeat([]api.BtfType{holding(below(n)...)}, n)
	wantWrongAt(t, all, 1)
	one := holding(slices.Repeat([]int{2}, 1<<20)...)
	wantWell(t, list(one, structure(0)))
	one.Members[1<<20-1].Off = 8
	wantWrongAt(t, list(one, structure(0)), 1)
}

// drawNumber answers a number that often is at an edge.
func drawNumber(draw func() uint64, small int) int {
	switch draw() % 8 {
	case 0:
		return among(draw, -1, 0, 1, 2, 4, 8, 16, 65535, 65536, 65537, 1<<20, math.MinInt, math.MaxInt)
	case 1:
		return int(draw() % 70000)
	}
	return int(draw() % uint64(small))
}

// drawType answers a type that may be wrong: one of n.
func drawType(draw func() uint64, n int) api.BtfType {
	id := func() int {
		if draw()%60 == 0 {
			return among(draw, -1, 0, n, n+1)
		}
		return 1 + int(draw()%uint64(n))
	}
	number := func(small int) int {
		if draw()%12 == 0 {
			return drawNumber(draw, small)
		}
		return int(draw() % uint64(small))
	}
	switch draw() % 10 {
	case 0, 1, 2:
		return integer(among(draw, 1, 2, 4, 8, 8, 8, 1, 2, 4, 1, 2, 4, 8, number(10)))
	case 3:
		return pointer(id())
	case 4, 5:
		return typedef(id())
	case 6, 7:
		return array(id(), among(draw, number(20), number(20), number(3000)))
	}
	one := structure(among(draw, 65536, 65536, number(65536), number(200)))
	for range draw() % 4 {
		m := member(among(draw, "a", "b", "c", ""), id(), number(100))
		if draw()%60 == 0 {
			m.Off += among(draw, 1, 4, -8)
		}
		one.Members = append(one.Members, m)
	}
	return one
}

// drawTypes answers up to n types that may be wrong, of which the later ones mostly hold the ones ahead.
func drawTypes(draw func() uint64, n int) []api.BtfType {
	l := make([]api.BtfType, 1+draw()%uint64(n))
	for k := range l {
		to := k
		if k == 0 || draw()%12 == 0 {
			to = len(l)
		}
		l[k] = drawType(draw, to)
		if k == 0 && draw()%4 > 0 {
			l[k] = integer(8)
		}
	}
	return l
}

// drawNested answers types that are well, mostly structs and typedefs of the ones ahead.
func drawNested(draw func() uint64) []api.BtfType {
	l := list(integer(4), structure(30, member("a", 1, 3), member("b", 1, 26)))
	sizes := []int{4, 30}
	for range 2 + draw()%9 {
		id := 1 + int(draw()%uint64(len(l)))
		switch draw() % 6 {
		case 0:
			l, sizes = append(l, typedef(id)), append(sizes, sizes[id-1])
		case 1:
			l, sizes = append(l, array(id, 2)), append(sizes, 2*sizes[id-1])
		default:
			one := structure(0)
			for range 1 + draw()%4 {
				id := len(l) - int(draw()%uint64(min(len(l), 3)))
				m := member(among(draw, "a", "b", "c", ""), id, int(draw()%20))
				one.Members = append(one.Members, m)
				one.Size = max(one.Size, m.Off/8+sizes[id-1])
			}
			l, sizes = append(l, one), append(sizes, one.Size)
		}
	}
	return l
}

// 7.1: Check of drawn types is the model's.
func TestCheckAgainstModel(t *testing.T) {
	draw := draws()
	well := 0
	for range 40000 {
		l := drawTypes(draw, 14)
		if wantAsModel(t, l) == api.OK {
			well++
		}
	}
	if well < 4000 || well > 36000 {
		t.Errorf("%d of 40000 are well", well)
	}
}

// R4, R5: types stay as they were, behind their list's end too, and each call tells the same again.
func TestListsStayAsTheyWere(t *testing.T) {
	all := append(example(), integer(3), typedef(77))
	all[5].Members = append(all[5].Members, member("behind", 99, 1))[:1]
	n := len(all) - 2
	l, kept := all[:n], copied(all)
	path := []string{"x", "b", "behind"}
	for range 3 {
		wantWell(t, l)
		wantSize(t, l, 10, 80, api.OK)
		wantStrip(t, l, 7, 10, api.OK)
		wantField(t, l, 6, path[:2], 12, 1, api.OK)
		wantFits(t, l, 1, 10, 4, 80, api.OK)
		wantWrong(t, all, n+1)
		layout.Field(l, 6, path)
	}
	if !same(all, kept) || all[5].Members[:2][1].Name != "behind" || strconv.Quote(path[2]) != `"behind"` {
		t.Error("what was handed in was changed")
	}
}
