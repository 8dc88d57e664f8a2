package trie_test

import (
	"math"
	"testing"

	"portcullis/api"
)

// Prefixes that begin each other, and one beside them.
var (
	none   = key(0, "\x00\x00")
	eight  = key(8, "\x0a\x00")
	twelve = key(12, "\x0a\x10")
	beside = key(12, "\x0a\x20")
)

// 11.1: a new entry's region has Value bytes, to read and write, which are the value.
func TestUpdateMakes(t *testing.T) {
	x, m := build(t, spec(4))
	m.Alloc(5, api.PermRead)
	wantUpdate(t, x, twelve, "\x00\n\x80", api.UpdateAny, api.OK)
	wantUpdate(t, x, beside, "bes", api.UpdateNoExist, api.OK)
	wantUpdate(t, x, eight, "\xff\xff\xff", api.UpdateAny, api.OK)
	wantAt(t, x, twelve, 2*region)
	wantAt(t, x, beside, 3*region)
	wantAt(t, x, eight, 4*region)
	other := api.Region{Number: 1, Perm: api.PermRead, Bytes: filled("\x00", 5)}
	wantRegions(t, m, other, held(2, "\x00\n\x80"), held(3, "bes"), held(4, "\xff\xff\xff"))
	wantForms(t, x, eight, twelve, beside)
}

// 11.1: an entry of the same form keeps its region, whose bytes become the value; the memory is asked for nothing.
func TestUpdateOver(t *testing.T) {
	for _, flags := range []int{api.UpdateAny, api.UpdateExist} {
		for _, most := range []int{3, 4} {
			x, m := with(t, most, none, eight, twelve)
			m.Fail(1)
			wantUpdate(t, x, key(8, "\x0a\xff"), "\x00\xff\n", flags, api.OK)
			wantUpdate(t, x, key(0, "\xab\xcd"), "all", flags, api.OK)
			wantForms(t, x, none, eight, twelve)
			wantRegions(t, m, held(1, "all"), held(2, "\x00\xff\n"), held(3, "003"))
			wantFails(t, m)
			m.Grace()
			wantUpdate(t, x, twelve, "twe", flags, api.OK)
			wantUpdate(t, x, twelve, "lve", flags, api.OK)
			wantRegions(t, m, held(1, "all"), held(2, "\x00\xff\n"), held(3, "lve"))
		}
	}
}

// 11.1: all flags, for a form that is there and one that isn't, with one place left and with none.
func TestUpdateFlags(t *testing.T) {
	for _, c := range []struct {
		left, flags   int
		there, absent api.Errno
	}{
		{1, api.UpdateAny, api.OK, api.OK},
		{1, api.UpdateNoExist, api.ErrExists, api.OK},
		{1, api.UpdateExist, api.OK, api.ErrNone},
		{1, -1, api.ErrArg, api.ErrArg},
		{1, 3, api.ErrArg, api.ErrArg},
		{0, api.UpdateAny, api.OK, api.ErrFull},
		{0, api.UpdateNoExist, api.ErrExists, api.ErrFull},
		{0, api.UpdateExist, api.OK, api.ErrNone},
		{0, -1, api.ErrArg, api.ErrArg},
		{0, 3, api.ErrArg, api.ErrArg},
	} {
		x, m := with(t, 2+c.left, eight, twelve)
		wantUpdate(t, x, key(12, "\x0a\x1f"), "new", c.flags, c.there)
		if c.there == api.OK {
			wantRegions(t, m, held(1, "001"), held(2, "new"))
		} else {
			wantRegions(t, m, firsts(2)...)
		}
		wantForms(t, x, eight, twelve)

		// Forms that an entry's prefix begins with, that begin with an entry's, and neither.
		for _, k := range []string{none, key(10, "\x0a\x00"), key(16, "\x0a\x10"), beside} {
			x, m = with(t, 2+c.left, eight, twelve)
			wantUpdate(t, x, k, "new", c.flags, c.absent)
			if c.absent == api.OK {
				wantForms(t, x, eight, twelve, k)
				wantRegions(t, m, append(firsts(2), held(3, "new"))...)
				wantAt(t, x, k, 3*region)
			} else {
				wantForms(t, x, eight, twelve)
				wantRegions(t, m, firsts(2)...)
			}
			wantAt(t, x, twelve, 2*region)
			wantAt(t, x, eight, region)
		}
	}
}

// 11.1: what is no key, values of other lengths and other flags are ErrArg ahead of all else, and change nothing.
func TestUpdateArguments(t *testing.T) {
	for _, most := range []int{2, 3} {
		x, m := with(t, most, none, eight)
		m.Fail(1)
		for i, k := range append([]string{eight, twelve}, notKeys...) {
			for _, v := range []string{"", "v", "va", "val", "valu", "value."} {
				for _, flags := range []int{math.MinInt, -1 << 32, -2, -1, 0, 1, 2, 3, 4, 1 << 32, 1<<32 + 2, math.MaxInt} {
					if i >= 2 || len(v) != 3 || flags < 0 || flags > 2 {
						wantUpdate(t, x, k, v, flags, api.ErrArg)
					}
				}
			}
		}
		wantForms(t, x, none, eight)
		wantRegions(t, m, firsts(2)...)
		wantFails(t, m)
	}
}

// 11.1: values of just Value bytes, and of one less and more, at both ends of what there may be.
func TestUpdateLengths(t *testing.T) {
	for _, size := range []struct{ key, value int }{{5, 1}, {5, api.MaxValue}, {260, 1}, {260, api.MaxValue}} {
		x, m := build(t, api.MapSpec{Kind: api.MapTrie, Key: size.key, Value: size.value, Max: 1})
		k := key(uint32(8*(size.key-4)), filled("k", size.key-4))
		for _, longer := range []int{-1, 1} {
			wantUpdate(t, x, k, filled("v", size.value+longer), api.UpdateAny, api.ErrArg)
		}
		wantUpdate(t, x, k[1:], filled("v", size.value+1), api.UpdateAny, api.ErrArg)
		wantForms(t, x)
		wantRegions(t, m)
		wantUpdate(t, x, k, filled("v", size.value), api.UpdateAny, api.OK)
		wantForms(t, x, k)
		wantRegions(t, m, held(1, filled("v", size.value)))
	}
}

// 11.1: where the memory refuses as well, ErrExists, ErrNone and ErrFull are told ahead of it, and ask it nothing.
func TestUpdateOrder(t *testing.T) {
	for _, c := range []struct {
		most  int
		key   string
		flags int
		want  api.Errno
	}{
		{3, eight, api.UpdateNoExist, api.ErrExists},
		{2, eight, api.UpdateNoExist, api.ErrExists},
		{3, twelve, api.UpdateExist, api.ErrNone},
		{2, twelve, api.UpdateExist, api.ErrNone},
		{2, twelve, api.UpdateAny, api.ErrFull},
		{2, twelve, api.UpdateNoExist, api.ErrFull},
	} {
		x, m := with(t, c.most, none, eight)
		m.Fail(1)
		wantUpdate(t, x, c.key, "new", c.flags, c.want)
		wantForms(t, x, none, eight)
		wantFails(t, m)
		wantRegions(t, m, firsts(2)...)
	}
}

// 11.1: where the memory refuses a region, the table has what it had: wherever the new entry would stand.
func TestUpdateRefusedByMemory(t *testing.T) {
	for _, k := range []string{none, key(4, "\x00\x00"), key(10, "\x0a\x00"), key(16, "\x0a\x10"), beside, key(1, "\x80\x00")} {
		x, m := with(t, 4, eight, twelve)
		before := x.Lookup(k)
		for _, flags := range []int{api.UpdateAny, api.UpdateNoExist} {
			m.Fail(1)
			wantUpdate(t, x, k, "new", flags, api.ErrMem)
			wantForms(t, x, eight, twelve)
			wantRegions(t, m, firsts(2)...)
			m.Grace() // no region was retired
			wantRegions(t, m, firsts(2)...)
			wantAt(t, x, k, before)
			wantAt(t, x, eight, region)
			wantAt(t, x, twelve, 2*region)
			wantUpdate(t, x, k, "new", api.UpdateExist, api.ErrNone)
			wantDelete(t, x, k, api.ErrNone)
		}
		wantUpdate(t, x, k, "new", api.UpdateAny, api.OK)
		wantAt(t, x, k, 3*region)
	}

	x, m := with(t, 4, eight)
	for range api.MaxRegions - 1 {
		m.Alloc(1, both)
	}
	wantUpdate(t, x, twelve, "new", api.UpdateAny, api.ErrMem)
	wantUpdate(t, x, eight, "new", api.UpdateAny, api.OK)
	wantForms(t, x, eight)
	wantErr(t, "Free of a region", m.Free(2*region), api.OK)
	wantUpdate(t, x, twelve, "new", api.UpdateAny, api.OK)
	wantForms(t, x, eight, twelve)
}

// 11.1: there may be Max entries, and not one more, also behind a Delete, whose region is live still.
func TestUpdateFull(t *testing.T) {
	for _, most := range []int{1, 2, 3, 16} {
		x, m := build(t, spec(most))
		forms := chain("\xa5\x5a", 16)
		for i, k := range forms {
			want := api.OK
			if i >= most {
				want = api.ErrFull
			}
			wantUpdate(t, x, k, first(i+1), api.UpdateAny, want)
			wantForms(t, x, forms[:min(i+1, most)]...)
		}
		wantRegions(t, m, firsts(most)...)
		wantDelete(t, x, forms[0], api.OK)
		wantUpdate(t, x, forms[16], "new", api.UpdateNoExist, api.OK)
		wantUpdate(t, x, forms[0], "new", api.UpdateNoExist, api.ErrFull)
		wantForms(t, x, append(forms[1:most:most], forms[16])...)
		wantRegions(t, m, append(firsts(most), held(most+1, "new"))...)
	}
}

// 11.1: an address is good while its entry is there, for whatever is written through it, or by Updates of it and others.
func TestAddressStays(t *testing.T) {
	x, m := with(t, 20, twelve)
	at := x.Lookup(twelve)
	for i, k := range chain("\x0a\x10", 16) {
		wantErr(t, "Write", m.Write(at+1, 2, uint64(i)), api.OK)
		wantBytes(t, m, x.Lookup(twelve), "0"+string([]byte{byte(i), 0}))
		wantUpdate(t, x, twelve, first(i), api.UpdateExist, api.OK)
		wantBytes(t, m, at, first(i))
		if k != twelve {
			wantUpdate(t, x, k, "new", api.UpdateNoExist, api.OK)
		}
		wantAt(t, x, twelve, at)
		wantBytes(t, m, at, first(i))
		m.Grace()
	}
	for _, k := range chain("\x0a\x10", 16) {
		if k != twelve {
			wantDelete(t, x, k, api.OK)
		}
		wantAt(t, x, twelve, at)
	}
	wantForms(t, x, twelve)
}

// R1, R2: a region that somebody else has freed makes no call panic; an Update tells the fault and changes nothing.
func TestRegionFreedByOthers(t *testing.T) {
	x, m := with(t, 3, none, eight, twelve)
	wantErr(t, "Free of a region", m.Free(2*region), api.OK)
	wantUpdate(t, x, eight, "new", api.UpdateAny, api.FaultFreed)
	wantForms(t, x, none, eight, twelve)
	wantRegions(t, m, held(1, "001"), held(3, "003"))
	wantAt(t, x, eight, 2*region)
	wantDelete(t, x, eight, api.OK)
	wantAt(t, x, eight, region)
	wantErr(t, "Free of a region", m.Free(3*region), api.OK)
	wantErr(t, "Free", x.Free(), api.OK)
	wantRegions(t, m)
}
