package hash_test

import (
	"math"
	"testing"

	"portcullis/api"
	"portcullis/hash"
	"portcullis/kmem"
)

// 10.1: without a memory there is no table, whatever else is handed in.
func TestNewWithoutMemory(t *testing.T) {
	for _, s := range []api.MapSpec{spec(api.MapHash, 2), spec(api.MapLru, 2), spec(api.MapArray, 2), {}} {
		wantRefused(t, nil, s)
	}
}

// 10.1: tables are of two kinds, and of none of the other maps'.
func TestNewKinds(t *testing.T) {
	m := kmem.New()
	for kind := -12; kind <= 40; kind++ {
		if kind == api.MapHash || kind == api.MapLru {
			wantKeys(t, buildIn(t, m, spec(kind, 2)))
			continue
		}
		wantRefused(t, m, spec(kind, 2))
	}
	for _, kind := range []int{
		api.MapArray, api.MapProgs, api.MapCpu, api.MapTrie, api.MapQueue, api.MapStack, api.MapRing,
		math.MinInt, math.MaxInt, 1<<32 + api.MapHash, 1<<32 + api.MapLru,
	} {
		wantRefused(t, m, spec(kind, 2))
		wantRefused(t, m, api.MapSpec{Kind: kind, Key: 4, Value: 8, Max: 2})
		wantRefused(t, m, api.MapSpec{Kind: kind, Value: 8, Max: 2})
	}
	wantRegions(t, m)
}

// 10.1: each number at its bounds and one past them, of both kinds; what is taken has keys and values of so many bytes.
func TestNewBounds(t *testing.T) {
	for _, kind := range kinds {
		for _, c := range []struct {
			key, value, most int
			ok               bool
		}{
			{4, 8, 2, true},
			{-1, 8, 2, false},
			{0, 8, 2, false},
			{1, 8, 2, true},
			{2, 8, 2, true},
			{511, 8, 2, true},
			{512, 8, 2, true},
			{513, 8, 2, false},
			{api.MaxKey, 8, 2, true},
			{api.MaxKey + 1, 8, 2, false},
			{4, -1, 2, false},
			{4, 0, 2, false},
			{4, 1, 2, true},
			{4, 7, 2, true},
			{4, api.MaxValue - 1, 2, true},
			{4, api.MaxValue, 2, true},
			{4, api.MaxValue + 1, 2, false},
			{4, 8, -1, false},
			{4, 8, 0, false},
			{4, 8, 1, true},
			{4, 8, api.MaxEntries - 1, true},
			{4, 8, api.MaxEntries, true},
			{4, 8, api.MaxEntries + 1, false},
			{1, 1, 1, true},
			{api.MaxKey, api.MaxValue, api.MaxEntries, true},
			{0, 0, 0, false},
			{0, 0, 2, false},
			{0, 8, 0, false},
			{4, 0, 0, false},
			{-1, -1, -1, false},
			{-4, -8, 2, false},
			{api.MaxKey + 1, api.MaxValue + 1, api.MaxEntries + 1, false},
			{api.MaxKey, api.MaxValue + 1, api.MaxEntries + 1, false},
			{api.MaxKey + 1, api.MaxValue, api.MaxEntries + 1, false},
			{api.MaxKey + 1, api.MaxValue + 1, api.MaxEntries, false},
		} {
			s := api.MapSpec{Kind: kind, Key: c.key, Value: c.value, Max: c.most}
			m := kmem.New()
			if !c.ok {
				wantRefused(t, m, s)
				wantRegions(t, m)
				continue
			}
			x, k, v := buildIn(t, m, s), filled("k", c.key), filled("v", c.value)
			wantRegions(t, m)
			wantUpdate(t, x, k, v, api.UpdateAny, api.OK)
			wantAt(t, x, k, region)
			wantKeys(t, x, k)
			wantRegions(t, m, held(1, v))
		}
	}
}

// 10.1: numbers that are far off are refused in each field.
func TestNewFarNumbers(t *testing.T) {
	m := kmem.New()
	for _, kind := range kinds {
		for _, n := range []int{math.MinInt, -1 << 32, -1, 1 << 32, 1<<32 + 1, 1 << 62, math.MaxInt} {
			wantRefused(t, m, api.MapSpec{Kind: kind, Key: n, Value: 8, Max: 2})
			wantRefused(t, m, api.MapSpec{Kind: kind, Key: 4, Value: n, Max: 2})
			wantRefused(t, m, api.MapSpec{Kind: kind, Key: 4, Value: 8, Max: n})
			wantRefused(t, m, api.MapSpec{Kind: kind, Key: n, Value: n, Max: n})
			wantRefused(t, m, api.MapSpec{Kind: n, Key: n, Value: n, Max: n})
		}
	}
}

// 10.1: New asks for no region: a memory that has no room, or that is to fail, is taken.
func TestNewAsksNothing(t *testing.T) {
	m := kmem.New()
	for range api.MaxRegions {
		m.Alloc(1, both)
	}
	for _, kind := range kinds {
		wantUpdate(t, buildIn(t, m, spec(kind, 2)), "aa", "aa1", api.UpdateAny, api.ErrMem)
	}
	m = kmem.New()
	m.Fail(1)
	x := buildIn(t, m, spec(api.MapHash, 2))
	wantUpdate(t, x, "aa", "aa1", api.UpdateAny, api.ErrMem)
	wantUpdate(t, x, "aa", "aa1", api.UpdateAny, api.OK)
}

// 10.1: tables of one memory have each its own entries, and its own order of uses.
func TestNewApart(t *testing.T) {
	m := kmem.New()
	var l []*hash.Map
	for n := range 4 {
		l = append(l, buildIn(t, m, spec(kinds[n%2], 3)))
	}
	for n, x := range l {
		for _, k := range row(n) {
			wantUpdate(t, x, k, first(k), api.UpdateNoExist, api.OK)
		}
	}
	for n, x := range l {
		wantKeys(t, x, row(n)...)
	}
	wantRegions(t, m, held(1, "\x00\x001"), held(2, "\x00\x001"), held(3, "\x00\x011"), held(4, "\x00\x001"), held(5, "\x00\x011"), held(6, "\x00\x021"))
	for range 5 {
		l[1].Lookup("\x00\x00")
	}
	wantLeaves(t, l[3], "\x00\x00", "\x00\x01", "\x00\x02")
	wantErr(t, "Free", l[2].Free(), api.OK)
	wantKeys(t, l[1], row(1)...)
}
