package hash_test

import (
	"testing"

	"portcullis/api"
	"portcullis/hash"
)

// wantGone looks whether a table is without entries, and takes none.
func wantGone(t *testing.T, x *hash.Map, next api.Errno) {
	t.Helper()
	for _, k := range append([]string{"aa", "bb", "cc", "\x00\x00", "\xff\xff"}, notKeys...) {
		wantAt(t, x, k, 0)
		for flags := -1; flags <= 3; flags++ {
			for _, v := range []string{"", "va", "val", "valu"} {
				wantUpdate(t, x, k, v, flags, api.ErrArg)
			}
		}
		wantDelete(t, x, k, api.ErrArg)
		wantNext(t, x, k, "", next)
	}
	wantErr(t, "Free", x.Free(), api.ErrArg)
	wantKeys(t, x)
}

// 10.2: the entries' regions are freed at once, those of others are not.
func TestFree(t *testing.T) {
	for _, kind := range kinds {
		x, m := with(t, kind, 3, "aa", "bb", "cc")
		other := buildIn(t, m, spec(kind, 3))
		wantUpdate(t, other, "aa", "its", api.UpdateAny, api.OK)
		m.Alloc(1, api.PermRead)
		wantErr(t, "Free", x.Free(), api.OK)
		for n := range uint64(3) {
			wantFault(t, m, (n+1)*region, api.FaultFreed)
		}
		rest := []api.Region{held(4, "its"), {Number: 5, Perm: api.PermRead, Bytes: "\x00"}}
		wantRegions(t, m, rest...)
		wantGone(t, x, api.ErrNone)
		wantRegions(t, m, rest...)
		wantKeys(t, other, "aa")
		wantAt(t, other, "aa", 4*region)
		m.Grace()
		wantRegions(t, m, rest...)
	}
}

// 10.2: a table without entries is freed, too, once.
func TestFreeOfEmpty(t *testing.T) {
	for _, kind := range kinds {
		x, m := with(t, kind, 3)
		wantErr(t, "Free", x.Free(), api.OK)
		wantGone(t, x, api.ErrNone)

		x = buildIn(t, m, spec(kind, 3))
		wantUpdate(t, x, "aa", "aa1", api.UpdateAny, api.OK)
		wantDelete(t, x, "aa", api.OK)
		wantErr(t, "Free", x.Free(), api.OK)
		wantGone(t, x, api.ErrNone)
		wantRegions(t, m, firsts("aa")...)
	}
}

// 10.2: regions that were retired, by a Delete or for a new entry, are not freed: they are read until Grace.
func TestFreeLeavesRetired(t *testing.T) {
	x, m := with(t, api.MapLru, 2, "aa", "bb")
	wantDelete(t, x, "aa", api.OK)
	wantUpdate(t, x, "cc", "cc1", api.UpdateAny, api.OK)
	wantUpdate(t, x, "dd", "dd1", api.UpdateAny, api.OK) // bb goes
	wantErr(t, "Free", x.Free(), api.OK)
	wantRegions(t, m, firsts("aa", "bb")...)
	wantBytes(t, m, region, "aa1")
	wantGone(t, x, api.ErrNone)
	wantRegions(t, m, firsts("aa", "bb")...)
	m.Grace()
	wantRegions(t, m)

	x, m = with(t, api.MapHash, 2, "aa", "bb")
	wantDelete(t, x, "bb", api.OK)
	wantErr(t, "Free", x.Free(), api.OK)
	wantRegions(t, m, held(2, "bb1"))
	m.Grace()
	wantRegions(t, m)
}

// 10.2: on nil Lookup and Len are 0, and all else ErrArg.
func TestNil(t *testing.T) {
	var x *hash.Map
	wantGone(t, x, api.ErrArg)
}
