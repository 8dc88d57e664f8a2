package queue_test

import (
	"math"
	"testing"

	"portcullis/api"
	"portcullis/queue"
)

// far is numbers that no field takes.
var far = []int{math.MinInt, -1 << 32, -1, 1 << 32, 1<<32 + 1, 1 << 62, math.MaxInt}

// 9.1: there are two kinds, and none of the other maps'.
func TestNewKinds(t *testing.T) {
	for kind := -2; kind <= 40; kind++ {
		s := spec(kind, 1, 1)
		if kind != api.MapQueue && kind != api.MapStack {
			wantRefused(t, s)
			continue
		}
		wantLen(t, build(t, s), 0)
	}
	for _, kind := range []int{
		api.MapHash, api.MapArray, api.MapProgs, api.MapCpu, api.MapLru, api.MapTrie, api.MapRing,
		math.MinInt, math.MaxInt, -api.MapQueue, -api.MapStack, 1<<32 + api.MapQueue, 1<<32 + api.MapStack,
	} {
		wantRefused(t, spec(kind, 1, 1))
		wantRefused(t, api.MapSpec{Kind: kind, Key: 4, Value: 8, Max: 2})
	}
}

// 9.1: each number at its bounds and one past them, of both kinds.
func TestNewBounds(t *testing.T) {
	for _, kind := range kinds {
		for _, c := range []struct {
			key, value, most int
			ok               bool
		}{
			{0, 1, 1, true},
			{0, 8, 2, true},
			{1, 8, 2, false},
			{4, 8, 2, false},
			{-1, 8, 2, false},
			{-4, 8, 2, false},
			{0, 0, 2, false},
			{0, -1, 2, false},
			{0, 1, 2, true},
			{0, 7, 2, true},
			{0, api.MaxValue - 1, 2, true},
			{0, api.MaxValue, 2, true},
			{0, api.MaxValue + 1, 2, false},
			{0, 8, 0, false},
			{0, 8, -1, false},
			{0, 8, 1, true},
			{0, 8, api.MaxEntries - 1, true},
			{0, 8, api.MaxEntries, true},
			{0, 8, api.MaxEntries + 1, false},
			{0, api.MaxValue, api.MaxEntries, true},
			{0, api.MaxValue + 1, api.MaxEntries + 1, false},
			{4, 0, 2, false},
			{4, 8, 0, false},
			{0, 0, 0, false},
			{1, 0, 0, false},
			{-1, -1, -1, false},
			{4, api.MaxValue + 1, api.MaxEntries + 1, false},
		} {
			s := api.MapSpec{Kind: kind, Key: c.key, Value: c.value, Max: c.most}
			if !c.ok {
				wantRefused(t, s)
				continue
			}
			x := build(t, s)
			wantLen(t, x, 0)
			wantPush(t, x, filled('v', c.value), 0, api.OK)
			wantLen(t, x, 1)
		}
	}
}

// 9.1: numbers that are far off are refused in each field, also where another one is wrong.
func TestNewFarNumbers(t *testing.T) {
	for _, kind := range kinds {
		for _, n := range far {
			wantRefused(t, api.MapSpec{Kind: kind, Key: n, Value: 8, Max: 2})
			wantRefused(t, api.MapSpec{Kind: kind, Value: n, Max: 2})
			wantRefused(t, api.MapSpec{Kind: kind, Value: 8, Max: n})
			wantRefused(t, api.MapSpec{Kind: kind, Value: n, Max: n})
			wantRefused(t, api.MapSpec{Kind: n, Key: n, Value: n, Max: n})
		}
	}
	wantRefused(t, api.MapSpec{})
}

// 9.1, R5: one map plays no part for another.
func TestNewApart(t *testing.T) {
	var maps []*queue.Map
	for n := range 4 {
		maps = append(maps, build(t, spec(kinds[n%2], 4, 3)))
	}
	for n, x := range maps {
		for i := range n {
			wantPush(t, x, value(10*n+i), 0, api.OK)
		}
	}
	for n, x := range maps {
		wantAll(t, x, turns(kinds[n%2], 10*n, 10*n+n-1)...)
	}
}
