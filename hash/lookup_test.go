package hash_test

import (
	"testing"

	"portcullis/api"
)

// notKeys is keys of other lengths than "aa", which begin as it does or not at all.
var notKeys = []string{"", "a", "aaa", "aa\x00", "\x00aa", "\x00", "\xff", "aaaa", "bbbbbbbb"}

// 10.2: the first address of a key's region.
func TestLookup(t *testing.T) {
	for _, kind := range kinds {
		x, m := with(t, kind, 4, "bb", "aa", "cc")
		wantAt(t, x, "bb", region)
		wantAt(t, x, "aa", 2*region)
		wantAt(t, x, "cc", 3*region)
		wantAt(t, x, "aa", 2*region)
		wantRegions(t, m, firsts("bb", "aa", "cc")...)
	}
}

// 10.2: 0 of what is none of its keys, also of keys of another length; it makes none.
func TestLookupOfNone(t *testing.T) {
	for _, kind := range kinds {
		x, m := with(t, kind, 4, "aa", "bb")
		for _, k := range append([]string{"ab", "ba", "cc", "\x00\x00", "\xff\xff", "a\x00", "AA"}, notKeys...) {
			wantAt(t, x, k, 0)
		}
		wantKeys(t, x, "aa", "bb")
		wantRegions(t, m, firsts("aa", "bb")...)

		x, _ = with(t, kind, 4)
		for _, k := range append([]string{"aa"}, notKeys...) {
			wantAt(t, x, k, 0)
		}
	}
}

// 10.2: each byte of a key plays its part.
func TestLookupKeyBytes(t *testing.T) {
	for _, size := range []int{1, 2, 8, 512} {
		x, _ := build(t, api.MapSpec{Kind: api.MapHash, Key: size, Value: 1, Max: 1})
		k := filled("\x5a", size)
		wantUpdate(t, x, k, "v", api.UpdateAny, api.OK)
		for i := range size {
			for bit := range 8 {
				b := []byte(k)
				b[i] ^= 1 << bit
				wantAt(t, x, string(b), 0)
			}
		}
		wantAt(t, x, k, region)
	}
}

// 10.2: a Lookup uses the entry: those that weren't looked up go ahead of it.
func TestLookupUses(t *testing.T) {
	x, _ := with(t, api.MapLru, 4, "aa", "bb", "cc", "dd")
	wantAt(t, x, "bb", 2*region)
	wantAt(t, x, "aa", region)
	wantLeaves(t, x, "cc", "dd", "bb", "aa")

	x, _ = with(t, api.MapLru, 3, "aa", "bb", "cc")
	for range 3 {
		wantAt(t, x, "aa", region)
	}
	wantAt(t, x, "cc", 3*region)
	wantLeaves(t, x, "bb", "aa", "cc")
}

// 10.2: a Lookup that finds none uses none.
func TestLookupOfNoneUsesNone(t *testing.T) {
	x, _ := with(t, api.MapLru, 3, "aa", "bb", "cc")
	for _, k := range append([]string{"ab", "dd"}, notKeys...) {
		wantAt(t, x, k, 0)
	}
	wantLeaves(t, x, "aa", "bb", "cc")
}
