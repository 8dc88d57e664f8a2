package ring_test

import (
	"math"
	"testing"

	"portcullis/api"
	"portcullis/kmem"
	"portcullis/ring"
)

// 12.1: without a memory there is no ring, whatever else is handed in.
func TestNewWithoutMemory(t *testing.T) {
	for _, s := range []api.MapSpec{spec(64), spec(65536), spec(65), {Kind: api.MapHash, Max: 64}, {Kind: api.MapRing, Key: 4, Value: 4, Max: 64}, {}} {
		wantRefused(t, nil, s)
	}
}

// 12.1: rings are of one kind, and of none of the other maps'.
func TestNewKinds(t *testing.T) {
	m := kmem.New()
	for kind := -30; kind <= 60; kind++ {
		if kind != api.MapRing {
			wantRefused(t, m, api.MapSpec{Kind: kind, Max: 64})
		}
	}
	for _, kind := range []int{
		api.MapHash, api.MapArray, api.MapProgs, api.MapCpu, api.MapLru, api.MapTrie, api.MapQueue, api.MapStack,
		math.MinInt, math.MaxInt, 1<<32 + api.MapRing, 1<<8 + api.MapRing, -api.MapRing,
	} {
		wantRefused(t, m, api.MapSpec{Kind: kind, Max: 64})
		wantRefused(t, m, api.MapSpec{Kind: kind, Value: 8, Max: 64})
		wantRefused(t, m, api.MapSpec{Kind: kind, Key: 8, Value: 8, Max: 64})
	}
	wantRegions(t, m)
}

// 12.1: a ring has no key and no value.
func TestNewKeyAndValue(t *testing.T) {
	m := kmem.New()
	for _, n := range []int{1, 4, 8, 64, -1, -8, api.MaxKey, api.MaxValue, 1 << 32, math.MinInt, math.MaxInt} {
		for _, most := range []int{64, 4096, 65536, 0} {
			wantRefused(t, m, api.MapSpec{Kind: api.MapRing, Key: n, Max: most})
			wantRefused(t, m, api.MapSpec{Kind: api.MapRing, Value: n, Max: most})
			wantRefused(t, m, api.MapSpec{Kind: api.MapRing, Key: n, Value: n, Max: most})
			wantRefused(t, m, api.MapSpec{Kind: api.MapRing, Key: n, Value: -n, Max: most})
		}
	}
	wantRegions(t, m)
}

// powers is all Maxes that a ring may have.
var powers = []int{64, 128, 256, 512, 1024, 2048, 4096, 8192, 16384, 32768, 65536}

// 12.1: Max is a power of two from 64 to 65536; what is taken has so many bytes: half of them for one record.
func TestNewMax(t *testing.T) {
	for _, most := range powers {
		x, m := build(t, most)
		wantUsed(t, x, 0)
		wantDrain(t, x)
		wantRegions(t, m)
		wantReserve(t, x, most/2+1, 0, api.ErrArg)
		wantReserve(t, x, most/2, at(1), api.OK)
		wantUsed(t, x, most/2+8)
		wantReserve(t, x, most/2-15, 0, api.ErrFull)
		wantReserve(t, x, most/2-16, at(2), api.OK)
		wantUsed(t, x, most)
		wantReserve(t, x, 1, 0, api.ErrFull)
	}
}

// 12.1: all other numbers from below 0 to above the greatest ring are no Max, nor are those that are far off.
func TestNewOtherMax(t *testing.T) {
	m := kmem.New()
	wantTaken := map[int]bool{}
	for _, most := range powers {
		wantTaken[most] = true
	}
	for most := -70000; most <= 140000; most++ {
		if x, e := ring.New(m, spec(most)); (e == api.OK) != wantTaken[most] || (x != nil) != wantTaken[most] || e != api.OK && e != api.ErrArg {
			t.Errorf("New of %d bytes: %v, error %d", most, x, e)
		}
	}
	for _, most := range []int{0, 1, 32, 63, 65, 96, 131072, -64, -65536} {
		wantRefused(t, m, spec(most))
	}
	for n := range 64 {
		if n < 6 || n > 16 {
			wantRefused(t, m, spec(1<<n)) // up to the least int
		}
		wantRefused(t, m, spec(-1<<n))
	}
	for _, most := range []int{math.MinInt, math.MinInt + 64, math.MaxInt, 1<<32 + 64, 1<<33 + 65536, 1<<62 + 64} {
		wantRefused(t, m, spec(most))
	}
	wantRegions(t, m)
}

// 12.1: several that are wrong are one error.
func TestNewSeveralWrong(t *testing.T) {
	m := kmem.New()
	for _, s := range []api.MapSpec{
		{},
		{Kind: api.MapRing},
		{Kind: api.MapQueue, Value: 4, Max: 65},
		{Kind: api.MapHash, Key: 4, Value: 4, Max: 64},
		{Kind: api.MapRing, Key: 4, Value: 4, Max: 63},
		{Kind: api.MapRing, Key: 4, Max: 131072},
		{Kind: -1, Key: -1, Value: -1, Max: -1},
		{Kind: math.MinInt, Key: math.MaxInt, Value: math.MinInt, Max: math.MaxInt},
	} {
		wantRefused(t, m, s)
		wantRefused(t, nil, s)
	}
	wantRegions(t, m)
}

// 12.1: New asks for no region: a memory that has no room, or that is to fail, is taken.
func TestNewAsksNothing(t *testing.T) {
	m := kmem.New()
	for range api.MaxRegions {
		m.Alloc(1, both)
	}
	wantReserve(t, buildIn(t, m, 64), 1, 0, api.ErrMem)
	m = kmem.New()
	m.Fail(1)
	x := buildIn(t, m, 64)
	wantReserve(t, x, 1, 0, api.ErrMem)
	wantReserve(t, x, 1, at(1), api.OK)
}

// 12.1: rings of one memory have each its own records.
func TestNewApart(t *testing.T) {
	m := kmem.New()
	a, b := buildIn(t, m, 64), buildIn(t, m, 64)
	wantReserve(t, a, 20, at(1), api.OK)
	wantReserve(t, b, 8, at(2), api.OK)
	wantOutput(t, a, "of a", api.OK)
	wantUsed(t, a, 48)
	wantUsed(t, b, 16)
	wantNoRecord(t, a, at(2))
	wantNoRecord(t, b, at(1), at(3))
	wantSubmit(t, b, at(2), api.OK)
	wantDrain(t, a)
	wantDrain(t, b, zeros(8))
	wantUsed(t, a, 48)
	wantErr(t, "Free", b.Free(), api.OK)
	wantDiscard(t, a, at(1), api.OK)
	wantDrain(t, a, "of a")
}

// 12.1: what a record uses: 8 bytes, and its own, upwards to a multiple of 8; reserved or put out, until it is taken.
func TestUses(t *testing.T) {
	for _, c := range []struct{ most, size, want int }{
		{64, 1, 16},
		{64, 7, 16},
		{64, 8, 16},
		{64, 9, 24},
		{64, 15, 24},
		{64, 16, 24},
		{64, 17, 32},
		{64, 20, 32},
		{64, 31, 40},
		{64, 32, 40},
		{128, 63, 72},
		{128, 64, 72},
		{4096, 2047, 2056},
		{4096, 2048, 2056},
		{65536, 1, 16},
		{65536, 255, 264},
		{65536, 256, 264},
		{65536, 257, 272},
		{65536, 32767, 32776},
		{65536, 32768, 32776},
	} {
		x, _ := with(t, c.most, c.size)
		wantUsed(t, x, c.want)
		wantSubmit(t, x, at(1), api.OK)
		wantUsed(t, x, c.want)
		wantDrain(t, x, zeros(c.size))
		wantUsed(t, x, 0)

		x, _ = build(t, c.most)
		wantOutput(t, x, row(1, c.size), api.OK)
		wantUsed(t, x, c.want)
		wantDrain(t, x, row(1, c.size))
		wantUsed(t, x, 0)
	}
}

// 12.1: what records of each size use, and that it grows with each of them until it is taken, whatever the record's state.
func TestUsesOfEach(t *testing.T) {
	x, m := build(t, 65536)
	used, number := 0, 0
	for size := 1; used+takes(size) <= 65536; size++ {
		number++
		wantReserve(t, x, size, at(number), api.OK)
		used += takes(size)
		wantUsed(t, x, used)
		switch size % 3 {
		case 0:
			wantSubmit(t, x, at(number), api.OK)
		case 1:
			wantDiscard(t, x, at(number), api.OK)
		}
		wantUsed(t, x, used)
	}
	if number < 300 {
		t.Errorf("%d records", number)
	}
	m.Grace()
	wantUsed(t, x, used)
}
