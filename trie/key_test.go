package trie_test

import (
	"testing"

	"portcullis/api"
)

// wantKey looks whether all calls take a key; the table must be without entries, and is again.
func wantKey(t *testing.T, size int, k string) {
	t.Helper()
	x, _ := build(t, api.MapSpec{Kind: api.MapTrie, Key: size, Value: 1, Max: 2})
	wantDelete(t, x, k, api.ErrNone)
	wantUpdate(t, x, k, "v", api.UpdateNoExist, api.OK)
	wantUpdate(t, x, k, "w", api.UpdateNoExist, api.ErrExists)
	wantAt(t, x, k, region)
	wantNext(t, x, k, "", api.ErrNone)
	wantDelete(t, x, k, api.OK)
	wantForms(t, x)
}

// wantNoKey looks whether no call takes what is no key, in a table that has an entry which all keys begin with.
func wantNoKey(t *testing.T, size int, k string) {
	t.Helper()
	x, m := build(t, api.MapSpec{Kind: api.MapTrie, Key: size, Value: 1, Max: 2})
	all := key(0, filled("\x00", size-4))
	wantUpdate(t, x, all, "v", api.UpdateAny, api.OK)
	wantAt(t, x, k, 0)
	for flags := range 3 {
		wantUpdate(t, x, k, "w", flags, api.ErrArg)
	}
	wantDelete(t, x, k, api.ErrArg)
	wantNext(t, x, k, all, api.OK)
	wantForms(t, x, all)
	wantRegions(t, m, held(1, "v"))
}

// A key has Key bytes, and neither one less nor one more, whatever length it tells.
func TestKeyBytes(t *testing.T) {
	for _, size := range []int{5, 6, 8, 12, 20, 259, 260} {
		for _, length := range []uint32{0, 1, 8} {
			k := key(length, filled("\xa5", size-4))
			wantKey(t, size, k)
			wantNoKey(t, size, k[:size-1])
			wantNoKey(t, size, k+"\x00")
			wantNoKey(t, size, k+k)
			for n := range 5 {
				wantNoKey(t, size, k[:n])
			}
		}
	}
}

// A key's length is at most the bits behind it: at 0, around a byte's end, at the most, and past it.
func TestKeyLength(t *testing.T) {
	for _, size := range []int{5, 6, 8, 20, 35, 36, 37, 260} {
		bytes, most := filled("\x5a", size-4), uint32(8*(size-4))
		for _, length := range []uint32{0, 1, 7, 8, 9, 15, 16, 17, most - 1, most} {
			if length <= most {
				wantKey(t, size, key(length, bytes))
			}
		}
		for _, past := range []uint32{1, 2, 7, 8, 9, 256} {
			wantNoKey(t, size, key(most+past, bytes))
		}
	}
}

// A length is of four bytes: one that is great in any of them is no key's, however small it is in the others.
func TestKeyLengthBytes(t *testing.T) {
	for _, size := range []int{5, 6, 8, 260} {
		bytes, most := filled("\x5a", size-4), uint32(8*(size-4))
		for _, low := range []uint32{0, 1, 8, most % 256} {
			for _, great := range []uint32{1 << 8, 7 << 8, 8 << 8, 9 << 8, 0xff << 8, 1 << 16, 0xff << 16, 1 << 24, 0x7f << 24, 0x80 << 24, 0xff << 24} {
				if great+low <= most {
					wantKey(t, size, key(great+low, bytes))
				} else {
					wantNoKey(t, size, key(great+low, bytes))
				}
			}
		}
		wantNoKey(t, size, key(1<<32-1, bytes))
	}
}

// A length's bytes are little end first: 256 bits and 1 bit are not the same ones.
func TestKeyLengthOrder(t *testing.T) {
	x, _ := build(t, api.MapSpec{Kind: api.MapTrie, Key: 260, Value: 1, Max: 3})
	ones := filled("\xff", 256)
	long := "\x00\x01\x00\x00" + filled("\xff", 32) + filled("\x00", 224)
	short := "\x01\x00\x00\x00\x80" + filled("\x00", 255)
	wantUpdate(t, x, "\x00\x01\x00\x00"+ones, "l", api.UpdateNoExist, api.OK)
	wantUpdate(t, x, "\x01\x00\x00\x00"+ones, "s", api.UpdateNoExist, api.OK)
	wantForms(t, x, long, short)
	wantAt(t, x, key(256, ones), region)
	wantAt(t, x, key(255, ones), 2*region)
	wantAt(t, x, key(1, ones), 2*region)
	wantAt(t, x, key(2048, ones), region)
	wantAt(t, x, key(0, ones), 0)
}

// The highest bit of a byte comes first, and the first byte ahead of the others.
func TestPrefixOrder(t *testing.T) {
	x, _ := build(t, spec(1))
	bits := []string{
		"\x80\x00", "\x40\x00", "\x20\x00", "\x10\x00", "\x08\x00", "\x04\x00", "\x02\x00", "\x01\x00",
		"\x00\x80", "\x00\x40", "\x00\x20", "\x00\x10", "\x00\x08", "\x00\x04", "\x00\x02", "\x00\x01",
	}
	for i, bit := range bits {
		wantUpdate(t, x, key(uint32(i+1), bit), "val", api.UpdateNoExist, api.OK)
		wantForms(t, x, key(uint32(i+1), bit))
		for j, other := range bits {
			want := x.Lookup(key(16, bit))
			if i != j {
				want = 0
			}
			wantAt(t, x, key(16, other), want)
		}
		if x.Lookup(key(16, bit)) == 0 {
			t.Errorf("bit %d is not found", i)
		}
		wantDelete(t, x, key(uint32(i+1), bit), api.OK)
	}
}

// Keys that differ in bits behind their prefix alone have the same form, of which these bits are 0; a bit within makes another one.
func TestForm(t *testing.T) {
	for _, bytes := range []string{"\x00\x00", "\xff\xff", "\xa5\x5a", "\x0a\x80"} {
		for length := range 17 {
			k := key(uint32(length), bytes)
			x, m := with(t, 1, plainForm(k))
			for bit := range 16 {
				other := flipped(k, bit)
				if bit < length {
					wantUpdate(t, x, other, "new", api.UpdateExist, api.ErrNone)
					wantDelete(t, x, other, api.ErrNone)
					wantAt(t, x, other, 0)
					continue
				}
				wantUpdate(t, x, other, "new", api.UpdateNoExist, api.ErrExists)
				wantUpdate(t, x, other, first(bit), api.UpdateAny, api.OK)
				wantAt(t, x, other, region)
				wantNext(t, x, other, "", api.ErrNone)
				wantRegions(t, m, held(1, first(bit)))
			}
			wantForms(t, x, plainForm(k))
			wantDelete(t, x, k, api.OK)
			wantForms(t, x)
		}
	}
}

// Keys that differ in their length alone have forms of their own, also where the bits between are 0.
func TestFormLengths(t *testing.T) {
	for _, bytes := range []string{"\x00\x00", "\xff\xff", "\x0a\x80"} {
		forms := chain(bytes, 16)
		x, _ := with(t, 17, forms...)
		for length := range 17 {
			wantAt(t, x, key(uint32(length), bytes), uint64(length+1)*region)
		}
		for length, form := range forms {
			wantDelete(t, x, key(uint32(length), bytes), api.OK)
			wantForms(t, x, forms[length+1:]...)
			wantDelete(t, x, form, api.ErrNone)
		}
	}
}

// What Next tells is the form, not the key that was handed in.
func TestFormIsTold(t *testing.T) {
	x, _ := build(t, spec(8))
	for _, c := range []struct{ key, form string }{
		{key(0, "\xff\xff"), key(0, "\x00\x00")},
		{key(1, "\xff\xff"), key(1, "\x80\x00")},
		{key(7, "\xff\xff"), key(7, "\xfe\x00")},
		{key(8, "\xff\xff"), key(8, "\xff\x00")},
		{key(9, "\xff\xff"), key(9, "\xff\x80")},
		{key(15, "\xff\xff"), key(15, "\xff\xfe")},
		{key(16, "\xff\xff"), key(16, "\xff\xff")},
	} {
		wantUpdate(t, x, c.key, "val", api.UpdateAny, api.OK)
		wantForms(t, x, c.form)
		wantUpdate(t, x, c.key, "val", api.UpdateExist, api.OK) // a form that is there stays as it is
		wantForms(t, x, c.form)
		wantDelete(t, x, c.form, api.OK)
	}
}
