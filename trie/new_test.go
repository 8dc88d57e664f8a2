package trie_test

import (
	"math"
	"testing"

	"portcullis/api"
	"portcullis/kmem"
	"portcullis/trie"
)

// 11.1: without a memory there is no table, whatever else is handed in.
func TestNewWithoutMemory(t *testing.T) {
	for _, s := range []api.MapSpec{spec(2), {Kind: api.MapHash, Key: 6, Value: 3, Max: 2}, {Kind: api.MapTrie, Key: 4, Value: 3, Max: 2}, {}} {
		wantRefused(t, nil, s)
	}
}

// 11.1: tables are of one kind, and of none of the other maps'.
func TestNewKinds(t *testing.T) {
	m := kmem.New()
	for kind := -12; kind <= 40; kind++ {
		s := spec(2)
		s.Kind = kind
		if kind == api.MapTrie {
			wantForms(t, buildIn(t, m, s))
			continue
		}
		wantRefused(t, m, s)
	}
	for _, kind := range []int{
		api.MapHash, api.MapArray, api.MapProgs, api.MapCpu, api.MapLru, api.MapQueue, api.MapStack, api.MapRing,
		math.MinInt, math.MaxInt, 1<<32 + api.MapTrie, -api.MapTrie,
	} {
		for _, key := range []int{0, 4, 5, 8} {
			wantRefused(t, m, api.MapSpec{Kind: kind, Key: key, Value: 8, Max: 2})
		}
	}
	wantRegions(t, m)
}

// 11.1: each number at its bounds and one past them; what is taken has keys and values of so many bytes.
func TestNewBounds(t *testing.T) {
	for _, c := range []struct {
		key, value, most int
		ok               bool
	}{
		{8, 8, 2, true},
		{-1, 8, 2, false},
		{0, 8, 2, false},
		{1, 8, 2, false},
		{3, 8, 2, false},
		{4, 8, 2, false},
		{5, 8, 2, true},
		{6, 8, 2, true},
		{259, 8, 2, true},
		{260, 8, 2, true},
		{261, 8, 2, false},
		{api.MaxKey, 8, 2, false},
		{8, -1, 2, false},
		{8, 0, 2, false},
		{8, 1, 2, true},
		{8, api.MaxValue - 1, 2, true},
		{8, api.MaxValue, 2, true},
		{8, api.MaxValue + 1, 2, false},
		{8, 8, -1, false},
		{8, 8, 0, false},
		{8, 8, 1, true},
		{8, 8, api.MaxEntries - 1, true},
		{8, 8, api.MaxEntries, true},
		{8, 8, api.MaxEntries + 1, false},
		{5, 1, 1, true},
		{260, api.MaxValue, api.MaxEntries, true},
		{0, 0, 0, false},
		{0, 0, 2, false},
		{0, 8, 0, false},
		{8, 0, 0, false},
		{-1, -1, -1, false},
		{-8, -8, 2, false},
		{4, 0, 0, false},
		{4, 0, 2, false},
		{4, 8, 0, false},
		{261, api.MaxValue + 1, api.MaxEntries + 1, false},
		{260, api.MaxValue + 1, api.MaxEntries + 1, false},
		{261, api.MaxValue, api.MaxEntries + 1, false},
		{261, api.MaxValue + 1, api.MaxEntries, false},
	} {
		s := api.MapSpec{Kind: api.MapTrie, Key: c.key, Value: c.value, Max: c.most}
		m := kmem.New()
		if !c.ok {
			wantRefused(t, m, s)
			wantRegions(t, m)
			continue
		}
		x, k, v := buildIn(t, m, s), key(uint32(8*(c.key-4)), filled("k", c.key-4)), filled("v", c.value)
		wantRegions(t, m)
		wantForms(t, x)
		wantUpdate(t, x, k, v, api.UpdateAny, api.OK)
		wantAt(t, x, k, region)
		wantForms(t, x, k)
		wantRegions(t, m, held(1, v))
	}
}

// 11.1: numbers that are far off are refused in each field.
func TestNewFarNumbers(t *testing.T) {
	m := kmem.New()
	for _, n := range []int{math.MinInt, -1 << 32, -1, 1 << 32, 1<<32 + 5, 1 << 62, math.MaxInt} {
		wantRefused(t, m, api.MapSpec{Kind: api.MapTrie, Key: n, Value: 8, Max: 2})
		wantRefused(t, m, api.MapSpec{Kind: api.MapTrie, Key: 8, Value: n, Max: 2})
		wantRefused(t, m, api.MapSpec{Kind: api.MapTrie, Key: 8, Value: 8, Max: n})
		wantRefused(t, m, api.MapSpec{Kind: api.MapTrie, Key: n, Value: n, Max: n})
		wantRefused(t, m, api.MapSpec{Kind: n, Key: n, Value: n, Max: n})
	}
}

// 11.1: New asks for no region: a memory that has no room, or that is to fail, is taken.
func TestNewAsksNothing(t *testing.T) {
	k := key(8, "\x0a\x00")
	m := kmem.New()
	for range api.MaxRegions {
		m.Alloc(1, both)
	}
	wantUpdate(t, buildIn(t, m, spec(2)), k, "val", api.UpdateAny, api.ErrMem)
	m = kmem.New()
	m.Fail(1)
	x := buildIn(t, m, spec(2))
	wantUpdate(t, x, k, "val", api.UpdateAny, api.ErrMem)
	wantUpdate(t, x, k, "val", api.UpdateAny, api.OK)
}

// 11.1: tables of one memory have each its own entries.
func TestNewApart(t *testing.T) {
	m := kmem.New()
	forms := []string{key(0, "\x00\x00"), key(8, "\x0a\x00"), key(9, "\x0a\x80")}
	var l []*trie.Map
	for range 4 {
		l = append(l, buildIn(t, m, spec(3)))
	}
	for n, x := range l {
		for _, k := range forms[:n] {
			wantUpdate(t, x, k, first(n), api.UpdateNoExist, api.OK)
		}
	}
	for n, x := range l {
		wantForms(t, x, forms[:n]...)
	}
	wantRegions(t, m, held(1, "001"), held(2, "002"), held(3, "002"), held(4, "003"), held(5, "003"), held(6, "003"))
	wantAt(t, l[0], forms[2], 0)
	wantAt(t, l[1], forms[2], region)
	wantAt(t, l[2], forms[2], 3*region)
	wantAt(t, l[3], forms[2], 6*region)
	wantErr(t, "Free", l[2].Free(), api.OK)
	wantDelete(t, l[1], forms[0], api.OK)
	wantForms(t, l[3], forms...)
	wantAt(t, l[3], forms[1], 5*region)
}
