package hash_test

import (
	"testing"

	"portcullis/api"
)

// 10.2: a key that is there is there no more, and the others are; its region is read until Grace.
func TestDelete(t *testing.T) {
	for _, kind := range kinds {
		x, m := with(t, kind, 3, "aa", "bb", "cc")
		wantDelete(t, x, "bb", api.OK)
		wantKeys(t, x, "aa", "cc")
		wantAt(t, x, "bb", 0)
		wantAt(t, x, "aa", region)
		wantAt(t, x, "cc", 3*region)
		wantRegions(t, m, firsts("aa", "bb", "cc")...)
		wantDelete(t, x, "bb", api.ErrNone)
		wantErr(t, "Write", m.Write(2*region+2, 1, '2'), api.OK)
		wantBytes(t, m, 2*region, "bb2")
		m.Grace()
		wantFault(t, m, 2*region, api.FaultFreed)
		wantRegions(t, m, held(1, "aa1"), held(3, "cc1"))
		wantDelete(t, x, "bb", api.ErrNone)

		wantDelete(t, x, "cc", api.OK)
		wantDelete(t, x, "aa", api.OK)
		wantKeys(t, x)
		m.Grace()
		wantRegions(t, m)
	}
}

// 10.2: ErrNone of a key that isn't there, ErrArg of one of another length; nothing is changed.
func TestDeleteOfNone(t *testing.T) {
	for _, kind := range kinds {
		x, m := with(t, kind, 3, "aa", "bb")
		for _, k := range []string{"ab", "ba", "\x00\x00", "\xff\xff"} {
			wantDelete(t, x, k, api.ErrNone)
		}
		for _, k := range notKeys {
			wantDelete(t, x, k, api.ErrArg)
		}
		wantKeys(t, x, "aa", "bb")
		m.Grace()
		wantRegions(t, m, firsts("aa", "bb")...)

		x, _ = with(t, kind, 3)
		wantDelete(t, x, "aa", api.ErrNone)
		for _, k := range notKeys {
			wantDelete(t, x, k, api.ErrArg)
		}
	}
}

// 10.2: a key that comes again has a new region, beside the one that it had, until Grace.
func TestDeleteAndMake(t *testing.T) {
	for _, kind := range kinds {
		x, m := with(t, kind, 1, "aa")
		wantDelete(t, x, "aa", api.OK)
		wantUpdate(t, x, "aa", "aa2", api.UpdateExist, api.ErrNone)
		wantUpdate(t, x, "aa", "aa2", api.UpdateNoExist, api.OK)
		wantAt(t, x, "aa", 2*region)
		wantRegions(t, m, held(1, "aa1"), held(2, "aa2"))
		wantDelete(t, x, "aa", api.OK)
		wantUpdate(t, x, "aa", "aa3", api.UpdateAny, api.OK)
		wantRegions(t, m, held(1, "aa1"), held(2, "aa2"), held(3, "aa3"))
		m.Grace()
		wantRegions(t, m, held(3, "aa3"))
		wantKeys(t, x, "aa")
	}
}

// 10.2: a Delete makes room in a full table that forgets: the next new one lets none go.
func TestDeleteMakesRoom(t *testing.T) {
	x, _ := with(t, api.MapLru, 3, "aa", "bb", "cc")
	wantDelete(t, x, "bb", api.OK)
	wantUpdate(t, x, "dd", "dd1", api.UpdateAny, api.OK)
	wantKeys(t, x, "aa", "cc", "dd")
	wantLeaves(t, x, "aa", "cc", "dd")
}
