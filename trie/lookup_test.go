package trie_test

import (
	"testing"

	"portcullis/api"
)

// ten is an address of 10.b.c.d.
func ten(b, c, d byte) string { return string([]byte{10, b, c, d}) }

// 11.1: the chapter's example.
func TestLookupExample(t *testing.T) {
	x, m := build(t, api.MapSpec{Kind: api.MapTrie, Key: 8, Value: 1, Max: 2})
	wantUpdate(t, x, key(8, ten(0, 0, 0)), "a", api.UpdateAny, api.OK)
	wantUpdate(t, x, key(16, ten(1, 0, 0)), "b", api.UpdateAny, api.OK)
	wantAt(t, x, key(32, ten(1, 2, 3)), 2*region)
	wantAt(t, x, key(32, ten(2, 2, 3)), region)
	wantAt(t, x, key(32, "\x0b\x00\x00\x01"), 0)
	wantAt(t, x, key(12, ten(1, 0, 0)), region)
	wantRegions(t, m, held(1, "a"), held(2, "b"))
}

// 11.1: an entry is found by keys as long as it and longer, not by shorter ones, whatever stands behind their prefix.
func TestLookupLengths(t *testing.T) {
	for length := range 17 {
		x, _ := with(t, 1, plainForm(key(uint32(length), "\xa5\x5a")))
		for other := range 17 {
			want := uint64(region)
			if other < length {
				want = 0
			}
			k := key(uint32(other), "\xa5\x5a")
			wantAt(t, x, k, want)
			for bit := other; bit < 16; bit++ {
				wantAt(t, x, flipped(k, bit), want)
			}
		}
	}
}

// 11.1: a key that matches but for one bit finds nothing, or the longest entry ahead of that bit.
func TestLookupButForOneBit(t *testing.T) {
	x, _ := with(t, 1, key(16, "\xa5\x5a"))
	for bit := range 16 {
		wantAt(t, x, flipped(key(16, "\xa5\x5a"), bit), 0)
	}

	x, _ = with(t, 17, chain("\xa5\x5a", 16)...)
	for bit := range 16 {
		wantAt(t, x, flipped(key(16, "\xa5\x5a"), bit), uint64(bit+1)*region)
	}
	wantAt(t, x, key(16, "\xa5\x5a"), 17*region)
}

// 11.1: of several that match the longest, in whatever order they came; of such as don't match none.
func TestLookupLongest(t *testing.T) {
	forms := []string{key(4, "\xa0\x00"), key(8, "\xa5\x00"), key(12, "\xa5\x50"), key(9, "\xa5\x80"), key(16, "\xa4\x00")}
	for _, order := range [][]int{{0, 1, 2, 3, 4}, {4, 3, 2, 1, 0}, {2, 0, 4, 1, 3}, {3, 2, 1, 4, 0}} {
		x, m := build(t, spec(5))
		for _, i := range order {
			wantUpdate(t, x, forms[i], first(i), api.UpdateNoExist, api.OK)
		}
		for _, c := range []struct {
			key  string
			want int
		}{
			{key(16, "\xa5\x5a"), 2},
			{key(12, "\xa5\x5f"), 2},
			{key(11, "\xa5\x5a"), 1},
			{key(16, "\xa5\x4a"), 1},
			{key(16, "\xa5\xda"), 3},
			{key(9, "\xa5\xda"), 3},
			{key(8, "\xa5\xda"), 1},
			{key(7, "\xa5\xda"), 0},
			{key(16, "\xa4\x00"), 4},
			{key(16, "\xa4\x01"), 0},
			{key(15, "\xa4\x00"), 0},
			{key(4, "\xaf\xff"), 0},
		} {
			wantBytes(t, m, x.Lookup(c.key), first(c.want))
		}
		for _, k := range []string{key(3, "\xa5\x5a"), key(0, "\xa5\x5a"), key(16, "\xb5\x5a"), key(16, "\x25\x5a"), key(16, "\x00\x00"), key(16, "\xff\xff")} {
			wantAt(t, x, k, 0)
		}
	}
}

// 11.1: an entry of length 0 is found by every key that finds no other one.
func TestLookupLengthZero(t *testing.T) {
	x, _ := with(t, 2, key(0, "\x00\x00"))
	for _, bytes := range []string{"\x00\x00", "\xff\xff", "\x80\x00", "\x7f\xff"} {
		for length := range uint32(17) {
			wantAt(t, x, key(length, bytes), region)
		}
	}
	wantUpdate(t, x, key(1, "\x80\x00"), "one", api.UpdateAny, api.OK)
	wantAt(t, x, key(0, "\x80\x00"), region)
	wantAt(t, x, key(1, "\x80\x00"), 2*region)
	wantAt(t, x, key(1, "\x7f\xff"), region)
	wantDelete(t, x, key(0, "\xff\xff"), api.OK)
	wantAt(t, x, key(0, "\x80\x00"), 0)
	wantAt(t, x, key(1, "\x80\x00"), 2*region)
	wantAt(t, x, key(1, "\x7f\xff"), 0)
}

// 11.1: where two prefixes part, an entry is found only if there is one.
func TestLookupBetween(t *testing.T) {
	x, _ := with(t, 3, key(16, "\xa5\x5a"), key(16, "\xa5\x5b"))
	for length := range uint32(16) {
		wantAt(t, x, key(length, "\xa5\x5a"), 0)
	}
	wantUpdate(t, x, key(15, "\xa5\x5b"), "all", api.UpdateNoExist, api.OK)
	wantAt(t, x, key(14, "\xa5\x5a"), 0)
	wantAt(t, x, key(15, "\xa5\x5a"), 3*region)
	wantAt(t, x, key(16, "\xa5\x5a"), region)
	wantAt(t, x, key(16, "\xa5\x5b"), 2*region)
	wantForms(t, x, key(15, "\xa5\x5a"), key(16, "\xa5\x5a"), key(16, "\xa5\x5b"))
}

// 11.1: a table without entries has nothing; what is no key finds nothing, even where an entry matches all; Lookup makes nothing.
func TestLookupOfNone(t *testing.T) {
	x, m := with(t, 2)
	for _, k := range append([]string{key(0, "\x00\x00"), key(8, "\x0a\x00"), key(16, "\xff\xff")}, notKeys...) {
		wantAt(t, x, k, 0)
	}
	wantForms(t, x)
	wantRegions(t, m)

	x, m = with(t, 2, key(0, "\x00\x00"), key(8, "\x0a\x00"))
	for _, k := range notKeys {
		wantAt(t, x, k, 0)
	}
	wantForms(t, x, key(0, "\x00\x00"), key(8, "\x0a\x00"))
	wantRegions(t, m, firsts(2)...)
}
