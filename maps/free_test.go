package maps_test

import (
	"testing"

	"portcullis/api"
	"portcullis/kmem"
	"portcullis/maps"
)

// wantGone looks whether x tells nothing whatever it is asked; s is what it was made of.
func wantGone(t *testing.T, x *maps.Map, s api.MapSpec) {
	t.Helper()
	draw := draws()
	for range 60 {
		for _, call := range calls {
			a := askedOf(draw, call, s)
			if got := ask(x, a); got != without(call) {
				t.Errorf("%v, gone: %+v: %s; want %s", s, a, got, without(call))
			}
		}
	}
}

// 13.2: on nil a Lookup is 0, Drain and Prog are none, and all others ErrArg.
func TestNil(t *testing.T) {
	var x *maps.Map
	for _, s := range samples {
		wantGone(t, x, s)
	}
	wantAt(t, x, key(0), 0, 0)
	wantUpdate(t, x, key(0), key(0), 0, 0, api.ErrArg)
	wantDelete(t, x, key(0), api.ErrArg)
	wantNext(t, x, "", "", api.ErrArg)
	wantPush(t, x, "a", 0, api.ErrArg)
	wantPop(t, x, "", api.ErrArg)
	wantPeek(t, x, "", api.ErrArg)
	wantReserve(t, x, 1, 0, api.ErrArg)
	wantEnd(t, x, at(1), true, api.ErrArg)
	wantEnd(t, x, at(1), false, api.ErrArg)
	wantOutput(t, x, "a", api.ErrArg)
	wantDrain(t, x)
	wantProg(t, x, 0, 0, false)
	wantFree(t, x, api.ErrArg)
}

// 13.2: a queue, a stack and programs are freed once, and tell nothing afterwards, of what they had neither.
func TestFreeOfThoseWithoutMemory(t *testing.T) {
	for _, kind := range []int{api.MapQueue, api.MapStack, api.MapProgs} {
		x, m := build(t, sample(kind))
		if kind == api.MapProgs {
			wantUpdate(t, x, key(1), key(7), 0, 0, api.OK)
		} else {
			wantPush(t, x, "one", 0, api.OK)
		}
		wantFree(t, x, api.OK)
		wantFree(t, x, api.ErrArg)
		wantUpdate(t, x, key(1), key(7), 0, 0, api.ErrArg)
		wantUpdate(t, x, key(2), key(7), 0, 0, api.ErrArg)
		wantDelete(t, x, key(1), api.ErrArg)
		wantDelete(t, x, key(0), api.ErrArg)
		wantNext(t, x, "", "", api.ErrArg)
		wantNext(t, x, key(1), "", api.ErrArg)
		wantPush(t, x, "one", 0, api.ErrArg)
		wantPush(t, x, "one", 2, api.ErrArg)
		wantPop(t, x, "", api.ErrArg)
		wantPeek(t, x, "", api.ErrArg)
		wantReserve(t, x, 1, 0, api.ErrArg)
		wantEnd(t, x, at(1), true, api.ErrArg)
		wantOutput(t, x, "one", api.ErrArg)
		wantAt(t, x, key(1), 0, 0)
		wantDrain(t, x)
		wantProg(t, x, 1, 0, false)
		wantProg(t, x, 0, 0, false)
		wantGone(t, x, sample(kind))
		wantRegions(t, m)
	}
}

// 13.2: arrays' regions are freed at once; afterwards Lookup is 0, and all else ErrArg.
func TestFreeOfArrays(t *testing.T) {
	for _, kind := range []int{api.MapArray, api.MapCpu} {
		m := kmem.New()
		m.Alloc(8, api.PermRead)
		x := buildIn(t, m, sample(kind), 3)
		y := buildIn(t, m, sample(api.MapArray), 3)
		last := len(m.Regions())
		wantFree(t, x, api.OK)
		wantNumbers(t, m, 1, last)
		wantGone(t, x, sample(kind))
		wantAt(t, y, key(0), 0, at(last))
		wantNumbers(t, m, 1, last)
	}
}

// 13.2: tables' entries are freed at once, those that were deleted at Grace; afterwards they are without entries, and take none.
func TestFreeOfTables(t *testing.T) {
	for _, c := range []struct {
		kind     int
		one, two string
	}{
		{api.MapHash, "aa", "bb"},
		{api.MapLru, "aa", "bb"},
		{api.MapTrie, "\x08\x00\x00\x00a\x00", "\x10\x00\x00\x00ab"},
	} {
		m := kmem.New()
		m.Alloc(8, api.PermRead)
		x := buildIn(t, m, sample(c.kind), 3)
		wantUpdate(t, x, c.one, "one", 0, 0, api.OK)
		wantUpdate(t, x, c.two, "two", 0, 0, api.OK)
		wantDelete(t, x, c.one, api.OK)
		wantNumbers(t, m, 1, 2, 3)
		wantFree(t, x, api.OK)
		wantNumbers(t, m, 1, 2)
		wantFree(t, x, api.ErrArg)
		wantAt(t, x, c.two, 0, 0)
		wantUpdate(t, x, c.two, "two", 0, 0, api.ErrArg)
		wantDelete(t, x, c.two, api.ErrArg)
		wantNext(t, x, "", "", api.ErrNone)
		wantNext(t, x, c.one, "", api.ErrNone)
		for _, call := range hasnt[c.kind] {
			disturb(x, call)
		}
		wantNumbers(t, m, 1, 2)
		m.Grace()
		wantNumbers(t, m, 1)
	}
}

// 13.2: a ring's held records are freed at once, and it has no records; it takes none afterwards.
func TestFreeOfRing(t *testing.T) {
	m := kmem.New()
	m.Alloc(8, api.PermRead)
	x := buildIn(t, m, sample(api.MapRing), 3)
	wantOutput(t, x, "out", api.OK)
	wantReserve(t, x, 1, at(3), api.OK)
	wantFree(t, x, api.OK)
	wantNumbers(t, m, 1, 2)
	wantEnd(t, x, at(3), true, api.ErrArg)
	wantEnd(t, x, at(3), false, api.ErrArg)
	wantDrain(t, x)
	wantGone(t, x, sample(api.MapRing))
	m.Grace()
	wantNumbers(t, m, 1)
}

// R5: what is done to a map, and its Free, play no part for another one of the same spec.
func TestMapsAreAlone(t *testing.T) {
	for _, s := range samples {
		m := kmem.New()
		x, y := buildIn(t, m, s, 3), buildIn(t, m, s, 3)
		w, n := build(t, s)
		disturb(x, allButFree...)
		wantFree(t, x, api.OK)
		draw := draws()
		for range 300 {
			a := askedOf(draw, among(draw, allButFree...), s)
			// addresses hang on how many regions m has given
			if a.call == "Lookup" || a.call == "Reserve" || a.call == "End" {
				continue
			}
			if got, want := ask(y, a), ask(w, a); got != want {
				t.Fatalf("%v: %+v: %s; want %s", s, a, got, want)
			}
		}
		m.Grace()
		n.Grace()
		if got, want := len(m.Regions()), len(n.Regions()); got != want {
			t.Errorf("%v: %d regions; want %d", s, got, want)
		}
	}
}
