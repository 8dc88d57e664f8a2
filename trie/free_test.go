package trie_test

import (
	"testing"

	"portcullis/api"
	"portcullis/trie"
)

// wantGone looks whether a table is without entries, and takes none.
func wantGone(t *testing.T, x *trie.Map, next api.Errno) {
	t.Helper()
	for _, k := range append([]string{none, eight, twelve, key(16, "\xff\xff")}, notKeys...) {
		wantAt(t, x, k, 0)
		for flags := -1; flags <= 3; flags++ {
			for _, v := range []string{"", "va", "val", "valu"} {
				wantUpdate(t, x, k, v, flags, api.ErrArg)
			}
		}
		wantDelete(t, x, k, api.ErrArg)
		wantNext(t, x, k, "", next)
	}
	wantErr(t, "Free", x.Free(), api.ErrArg)
	wantForms(t, x)
}

// 11.1: the entries' regions are freed at once, those of others are not.
func TestFree(t *testing.T) {
	x, m := with(t, 4, none, eight, twelve, beside)
	other := buildIn(t, m, spec(3))
	wantUpdate(t, other, eight, "its", api.UpdateAny, api.OK)
	m.Alloc(1, api.PermRead)
	wantErr(t, "Free", x.Free(), api.OK)
	for n := range uint64(4) {
		wantFault(t, m, (n+1)*region, api.FaultFreed)
	}
	rest := []api.Region{held(5, "its"), {Number: 6, Perm: api.PermRead, Bytes: "\x00"}}
	wantRegions(t, m, rest...)
	wantGone(t, x, api.ErrNone)
	wantRegions(t, m, rest...)
	wantForms(t, other, eight)
	wantAt(t, other, twelve, 5*region)
	m.Grace()
	wantRegions(t, m, rest...)
}

// 11.1: a table without entries is freed, too, once.
func TestFreeOfEmpty(t *testing.T) {
	x, m := with(t, 3)
	wantErr(t, "Free", x.Free(), api.OK)
	wantGone(t, x, api.ErrNone)

	x = buildIn(t, m, spec(3))
	wantUpdate(t, x, eight, "001", api.UpdateAny, api.OK)
	wantDelete(t, x, eight, api.OK)
	wantErr(t, "Free", x.Free(), api.OK)
	wantGone(t, x, api.ErrNone)
	wantRegions(t, m, firsts(1)...)
}

// 11.1: regions that were retired are not freed: they are read until Grace.
func TestFreeLeavesRetired(t *testing.T) {
	x, m := with(t, 3, none, eight, twelve)
	wantDelete(t, x, eight, api.OK)
	wantUpdate(t, x, beside, "new", api.UpdateAny, api.OK)
	wantDelete(t, x, none, api.OK)
	wantErr(t, "Free", x.Free(), api.OK)
	wantRegions(t, m, firsts(2)...)
	wantBytes(t, m, 2*region, "002")
	wantGone(t, x, api.ErrNone)
	wantRegions(t, m, firsts(2)...)
	m.Grace()
	wantRegions(t, m)
}

// 11.1: a memory that is to fail plays no part in Free, and is asked for nothing.
func TestFreeAsksNothing(t *testing.T) {
	x, m := with(t, 3, none, eight)
	m.Fail(1)
	wantErr(t, "Free", x.Free(), api.OK)
	wantRegions(t, m)
	wantFails(t, m)
}

// 11.1: on nil Lookup and Len are 0, and all else ErrArg.
func TestNil(t *testing.T) {
	var x *trie.Map
	wantGone(t, x, api.ErrArg)
}
