package hash_test

import (
	"math"
	"testing"

	"portcullis/api"
)

// 10.2: a new entry's region has Value bytes, to read and write, which are the value.
func TestUpdateMakes(t *testing.T) {
	for _, kind := range kinds {
		x, m := build(t, spec(kind, 3))
		m.Alloc(5, api.PermRead)
		for i, k := range []string{"bb", "aa"} {
			wantUpdate(t, x, k, k+"\xff", api.UpdateAny, api.OK)
			wantAt(t, x, k, uint64(2+i)*region)
		}
		wantUpdate(t, x, "cc", "\x00\n\x80", api.UpdateNoExist, api.OK)
		other := api.Region{Number: 1, Perm: api.PermRead, Bytes: filled("\x00", 5)}
		wantRegions(t, m, other, held(2, "bb\xff"), held(3, "aa\xff"), held(4, "\x00\n\x80"))
		wantKeys(t, x, "aa", "bb", "cc")
	}
}

// 10.2: an entry that is there keeps its region, whose bytes become the value; its key stands once.
func TestUpdateOver(t *testing.T) {
	for _, kind := range kinds {
		for _, flags := range []int{api.UpdateAny, api.UpdateExist} {
			x, m := with(t, kind, 2, "aa", "bb")
			m.Fail(1) // no region is asked for
			wantUpdate(t, x, "aa", "\x00\xff\n", flags, api.OK)
			wantAt(t, x, "aa", region)
			wantRegions(t, m, held(1, "\x00\xff\n"), held(2, "bb1"))
			wantKeys(t, x, "aa", "bb")
			m.Grace()
			wantUpdate(t, x, "bb", "bb2", flags, api.OK)
			wantUpdate(t, x, "bb", "bb3", flags, api.OK)
			wantRegions(t, m, held(1, "\x00\xff\n"), held(2, "bb3"))
		}
	}
}

// 10.2: all flags, for an entry that is there and one that isn't, with one place left and with none.
func TestUpdateFlags(t *testing.T) {
	for _, c := range []struct {
		kind, left, flags int
		there, absent     api.Errno
	}{
		{api.MapHash, 1, api.UpdateAny, api.OK, api.OK},
		{api.MapHash, 1, api.UpdateNoExist, api.ErrExists, api.OK},
		{api.MapHash, 1, api.UpdateExist, api.OK, api.ErrNone},
		{api.MapHash, 0, api.UpdateAny, api.OK, api.ErrFull},
		{api.MapHash, 0, api.UpdateNoExist, api.ErrExists, api.ErrFull},
		{api.MapHash, 0, api.UpdateExist, api.OK, api.ErrNone},
		{api.MapLru, 1, api.UpdateAny, api.OK, api.OK},
		{api.MapLru, 1, api.UpdateNoExist, api.ErrExists, api.OK},
		{api.MapLru, 1, api.UpdateExist, api.OK, api.ErrNone},
		{api.MapLru, 0, api.UpdateAny, api.OK, api.OK},
		{api.MapLru, 0, api.UpdateNoExist, api.ErrExists, api.OK},
		{api.MapLru, 0, api.UpdateExist, api.OK, api.ErrNone},
	} {
		x, m := with(t, c.kind, 2+c.left, "aa", "bb")
		wantUpdate(t, x, "bb", "new", c.flags, c.there)
		if c.there == api.OK {
			wantRegions(t, m, held(1, "aa1"), held(2, "new"))
		} else {
			wantRegions(t, m, firsts("aa", "bb")...)
		}
		wantKeys(t, x, "aa", "bb")

		x, m = with(t, c.kind, 2+c.left, "aa", "bb")
		wantUpdate(t, x, "cc", "new", c.flags, c.absent)
		switch {
		case c.absent != api.OK:
			wantKeys(t, x, "aa", "bb")
			wantRegions(t, m, firsts("aa", "bb")...)
		case c.left == 1:
			wantKeys(t, x, "aa", "bb", "cc")
			wantRegions(t, m, append(firsts("aa", "bb"), held(3, "new"))...)
		default:
			wantKeys(t, x, "bb", "cc")
			wantRegions(t, m, append(firsts("aa", "bb"), held(3, "new"))...) // until Grace
			m.Grace()
			wantRegions(t, m, held(2, "bb1"), held(3, "new"))
		}
	}
}

// 10.2: keys and values of other lengths and other flags are ErrArg ahead of all else, and change nothing.
func TestUpdateArguments(t *testing.T) {
	for _, kind := range kinds {
		for _, most := range []int{2, 3} {
			x, m := with(t, kind, most, "aa", "bb")
			m.Fail(1)
			for _, k := range append([]string{"aa", "cc"}, notKeys...) {
				for _, v := range []string{"", "v", "va", "val", "valu", "value."} {
					for _, flags := range []int{math.MinInt, -1 << 32, -2, -1, 0, 1, 2, 3, 4, 1 << 32, 1<<32 + 2, math.MaxInt} {
						if len(k) != 2 || len(v) != 3 || flags < 0 || flags > 2 {
							wantUpdate(t, x, k, v, flags, api.ErrArg)
						}
					}
				}
			}
			wantKeys(t, x, "aa", "bb")
			wantRegions(t, m, firsts("aa", "bb")...)
			_, e := m.Alloc(1, both)
			wantErr(t, "the Alloc that was to fail", e, api.ErrMem)
		}
	}
}

// 10.2: keys and values of just Key and Value bytes, and of one less and more, at both ends of what there may be.
func TestUpdateLengths(t *testing.T) {
	for _, kind := range kinds {
		for _, size := range []struct{ key, value int }{{1, 1}, {1, api.MaxValue}, {api.MaxKey, 1}, {api.MaxKey, api.MaxValue}} {
			x, m := build(t, api.MapSpec{Kind: kind, Key: size.key, Value: size.value, Max: 1})
			for _, longer := range []int{-1, 1} {
				wantUpdate(t, x, filled("k", size.key+longer), filled("v", size.value), api.UpdateAny, api.ErrArg)
				wantUpdate(t, x, filled("k", size.key), filled("v", size.value+longer), api.UpdateAny, api.ErrArg)
				wantUpdate(t, x, filled("k", size.key+longer), filled("v", size.value-longer), api.UpdateAny, api.ErrArg)
			}
			wantKeys(t, x)
			wantRegions(t, m)
			wantUpdate(t, x, filled("k", size.key), filled("v", size.value), api.UpdateAny, api.OK)
			wantRegions(t, m, held(1, filled("v", size.value)))
		}
	}
}

// 10.2: where the memory refuses as well, ErrExists, ErrNone and ErrFull are told ahead of it, and ask it nothing.
func TestUpdateOrder(t *testing.T) {
	for _, c := range []struct {
		kind, most int
		key        string
		flags      int
		want       api.Errno
	}{
		{api.MapHash, 3, "aa", api.UpdateNoExist, api.ErrExists},
		{api.MapHash, 2, "aa", api.UpdateNoExist, api.ErrExists},
		{api.MapHash, 3, "cc", api.UpdateExist, api.ErrNone},
		{api.MapHash, 2, "cc", api.UpdateExist, api.ErrNone},
		{api.MapHash, 2, "cc", api.UpdateAny, api.ErrFull},
		{api.MapHash, 2, "cc", api.UpdateNoExist, api.ErrFull},
		{api.MapLru, 3, "aa", api.UpdateNoExist, api.ErrExists},
		{api.MapLru, 2, "aa", api.UpdateNoExist, api.ErrExists},
		{api.MapLru, 3, "cc", api.UpdateExist, api.ErrNone},
		{api.MapLru, 2, "cc", api.UpdateExist, api.ErrNone},
	} {
		x, m := with(t, c.kind, c.most, "aa", "bb")
		m.Fail(1)
		wantUpdate(t, x, c.key, "new", c.flags, c.want)
		wantKeys(t, x, "aa", "bb")
		_, e := m.Alloc(1, both)
		wantErr(t, "the Alloc that was to fail", e, api.ErrMem)
		wantRegions(t, m, firsts("aa", "bb")...)
	}
}

// 10.2: where the memory refuses a region, the table has what it had, also one that is full and forgets.
func TestUpdateRefusedByMemory(t *testing.T) {
	for _, kind := range kinds {
		for _, most := range []int{2, 3, 4} {
			if kind == api.MapHash && most == 2 {
				continue // ErrFull
			}
			x, m := with(t, kind, most, "aa", "bb")
			for _, flags := range []int{api.UpdateAny, api.UpdateNoExist} {
				m.Fail(1)
				wantUpdate(t, x, "cc", "new", flags, api.ErrMem)
				wantKeys(t, x, "aa", "bb")
				wantRegions(t, m, firsts("aa", "bb")...)
				m.Grace() // no region was retired
				wantRegions(t, m, firsts("aa", "bb")...)
			}
			wantUpdate(t, x, "cc", "new", api.UpdateAny, api.OK)
			wantAt(t, x, "cc", 3*region)
		}
	}
}

// 10.2: a region that was refused uses no entry: who goes next is the same.
func TestUpdateRefusedUsesNone(t *testing.T) {
	x, m := with(t, api.MapLru, 3, "aa", "bb", "cc")
	x.Lookup("aa")
	m.Fail(1)
	wantUpdate(t, x, "dd", "new", api.UpdateAny, api.ErrMem)
	m.Fail(0)
	wantLeaves(t, x, "bb", "cc", "aa")
}

// 10.2: a full table that forgets needs a region ahead of the one that it lets go: a memory without room refuses.
func TestUpdateFullMemory(t *testing.T) {
	x, m := with(t, api.MapLru, 2, "aa", "bb")
	for range api.MaxRegions - 3 {
		m.Alloc(1, both)
	}
	wantUpdate(t, x, "cc", "cc1", api.UpdateAny, api.OK)
	wantKeys(t, x, "bb", "cc")
	wantUpdate(t, x, "dd", "dd1", api.UpdateAny, api.ErrMem) // aa's region is live still
	wantKeys(t, x, "bb", "cc")
	wantUpdate(t, x, "bb", "bb2", api.UpdateAny, api.OK)
	m.Grace()
	wantUpdate(t, x, "dd", "dd1", api.UpdateAny, api.OK)
	wantKeys(t, x, "bb", "dd")
}

// 10.2: the one that goes is that which was used longest ago: by a Lookup, an Update of its own, or by being new.
func TestUpdateForgets(t *testing.T) {
	x, _ := with(t, api.MapLru, 4, "dd", "bb", "cc", "aa")
	wantLeaves(t, x, "dd", "bb", "cc", "aa")

	x, _ = with(t, api.MapLru, 4, "aa", "bb", "cc", "dd")
	wantUpdate(t, x, "aa", "aa2", api.UpdateAny, api.OK)
	x.Lookup("bb")
	wantUpdate(t, x, "cc", "cc2", api.UpdateExist, api.OK)
	wantLeaves(t, x, "dd", "aa", "bb", "cc")

	x, _ = with(t, api.MapLru, 3, "aa", "bb", "cc")
	wantDelete(t, x, "aa", api.OK)
	wantUpdate(t, x, "aa", "aa2", api.UpdateAny, api.OK) // new again, and so the last one
	wantLeaves(t, x, "bb", "cc", "aa")

	x, _ = with(t, api.MapLru, 1, "aa")
	x.Lookup("aa")
	wantLeaves(t, x, "aa")
}

// 10.2: what is refused, and calls that aren't said to use an entry, use none.
func TestUpdateForgetsUnused(t *testing.T) {
	x, _ := with(t, api.MapLru, 3, "aa", "bb", "cc")
	wantUpdate(t, x, "aa", "new", api.UpdateNoExist, api.ErrExists)
	wantUpdate(t, x, "aa", "long", api.UpdateAny, api.ErrArg)
	wantUpdate(t, x, "aa", "new", 3, api.ErrArg)
	wantUpdate(t, x, "dd", "new", api.UpdateExist, api.ErrNone)
	wantDelete(t, x, "dd", api.ErrNone)
	wantDelete(t, x, "a", api.ErrArg)
	wantNext(t, x, "", "aa", api.OK)
	wantNext(t, x, "aa", "bb", api.OK)
	wantKeys(t, x, "aa", "bb", "cc")
	wantLeaves(t, x, "aa", "bb", "cc")
}

// 10.2: what is done through an address that was told uses no entry.
func TestUpdateForgetsWritten(t *testing.T) {
	x, m := with(t, api.MapLru, 2, "aa", "bb")
	aa, bb := x.Lookup("aa"), x.Lookup("bb")
	m.Write(aa, 1, 'A')
	m.Read(aa, 1)
	wantLeaves(t, x, "aa", "bb")
	wantBytes(t, m, aa, "Aa1")
	wantBytes(t, m, bb, "bb1")
}

// 10.2: the chapter's example: a, b, a looked up: b goes as by Delete, read until Grace.
func TestUpdateLetsGo(t *testing.T) {
	x, m := with(t, api.MapLru, 2, "aa", "bb")
	wantAt(t, x, "aa", region)
	wantUpdate(t, x, "cc", "cc1", api.UpdateAny, api.OK)
	wantKeys(t, x, "aa", "cc")
	wantAt(t, x, "bb", 0)
	wantRegions(t, m, firsts("aa", "bb", "cc")...)
	wantBytes(t, m, 2*region, "bb1")
	wantDelete(t, x, "bb", api.ErrNone)
	wantErr(t, "Write", m.Write(2*region, 1, 'B'), api.OK)
	m.Grace()
	wantFault(t, m, 2*region, api.FaultFreed)
	wantRegions(t, m, held(1, "aa1"), held(3, "cc1"))
	wantUpdate(t, x, "bb", "bb2", api.UpdateAny, api.OK)
	wantAt(t, x, "bb", 4*region)
	wantRegions(t, m, held(1, "aa1"), held(3, "cc1"), held(4, "bb2"))
}

// 10.2: a table of the other kind never lets an entry go for a new one, however long ago it was used.
func TestUpdateKeeps(t *testing.T) {
	x, m := with(t, api.MapHash, 2, "aa", "bb")
	x.Lookup("aa")
	for _, k := range []string{"cc", "dd", "ab"} {
		wantUpdate(t, x, k, "new", api.UpdateAny, api.ErrFull)
		wantAt(t, x, k, 0)
	}
	wantKeys(t, x, "aa", "bb")
	wantRegions(t, m, firsts("aa", "bb")...)
	wantDelete(t, x, "aa", api.OK)
	wantUpdate(t, x, "cc", "cc1", api.UpdateAny, api.OK) // there is room again, ahead of Grace
	wantUpdate(t, x, "aa", "aa2", api.UpdateAny, api.ErrFull)
	wantKeys(t, x, "bb", "cc")
}

// R1, R2: a region that somebody else has freed makes no call panic; an Update tells the fault and uses nothing.
func TestRegionFreedByOthers(t *testing.T) {
	for _, kind := range kinds {
		x, m := with(t, kind, 3, "aa", "bb", "cc")
		wantErr(t, "Free of a region", m.Free(region), api.OK)
		wantUpdate(t, x, "aa", "aa2", api.UpdateAny, api.FaultFreed)
		wantKeys(t, x, "aa", "bb", "cc")
		wantRegions(t, m, firsts("aa", "bb", "cc")[1:]...)
		if kind == api.MapLru {
			wantLeaves(t, x, "aa")
			continue
		}
		wantAt(t, x, "aa", region)
		wantDelete(t, x, "aa", api.OK)
		wantErr(t, "Free of a region", m.Free(2*region), api.OK)
		wantErr(t, "Free", x.Free(), api.OK)
		wantRegions(t, m)
	}
}
