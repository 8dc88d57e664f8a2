package trie_test

import (
	"testing"

	"portcullis/api"
)

// 11.1: the least form above a key's form, whether that one is there or not.
func TestNext(t *testing.T) {
	x, _ := with(t, 8, beside, none, key(16, "\xff\xff"), eight, twelve)
	for _, c := range []struct{ key, want string }{
		{none, eight},
		{key(0, "\xff\xff"), eight},
		{key(1, "\x80\x00"), eight},
		{key(7, "\xfe\x00"), eight},
		{key(8, "\x09\xff"), eight},
		{eight, twelve},
		{key(8, "\x0a\xff"), twelve}, // its own form is there
		{key(8, "\x0b\x00"), twelve},
		{key(9, "\xff\xff"), twelve},
		{key(11, "\x0a\x10"), twelve},
		{key(12, "\x0a\x0f"), twelve},
		{twelve, beside},
		{key(12, "\x0a\x1f"), beside},
		{beside, key(16, "\xff\xff")},
		{key(12, "\x0a\x2f"), key(16, "\xff\xff")},
		{key(12, "\xff\xff"), key(16, "\xff\xff")},
		{key(16, "\xff\xfe"), key(16, "\xff\xff")},
	} {
		wantNext(t, x, c.key, c.want, api.OK)
	}
	wantNext(t, x, key(16, "\xff\xff"), "", api.ErrNone)
	wantDelete(t, x, key(16, "\xff\xff"), api.OK)
	for _, k := range []string{beside, key(12, "\x0a\x2f"), key(12, "\x0a\x30"), key(13, "\x00\x00"), key(16, "\xff\xff")} {
		wantNext(t, x, k, "", api.ErrNone)
	}
	wantDelete(t, x, twelve, api.OK)
	wantNext(t, x, eight, beside, api.OK)
	wantNext(t, x, twelve, beside, api.OK)
	wantForms(t, x, none, eight, beside)
}

// 11.1: of what is no key the least form of all, wherever its bytes would stand.
func TestNextOfNoKey(t *testing.T) {
	x, _ := with(t, 3, twelve, eight)
	for _, k := range append([]string{"\xff", "\xff\xff\xff\xff", filled("\xff", 6), filled("\xff", 7), twelve + "\x00", twelve[:5]}, notKeys...) {
		wantNext(t, x, k, eight, api.OK)
	}
	wantUpdate(t, x, none, "all", api.UpdateAny, api.OK)
	for _, k := range notKeys {
		wantNext(t, x, k, none, api.OK)
	}
}

// 11.1: without entries there is no next form of any.
func TestNextOfEmpty(t *testing.T) {
	x, _ := with(t, 3)
	wantNothing := func() {
		t.Helper()
		for _, k := range append([]string{none, eight, key(16, "\xff\xff")}, notKeys...) {
			wantNext(t, x, k, "", api.ErrNone)
		}
	}
	wantNothing()
	wantUpdate(t, x, eight, "val", api.UpdateAny, api.OK)
	wantDelete(t, x, eight, api.OK)
	wantNothing()
}

// 11.1: the order is that of bytes from 0 to 255, the length's lowest one ahead of all others, which is not that of lengths.
func TestNextOrder(t *testing.T) {
	x, _ := build(t, api.MapSpec{Kind: api.MapTrie, Key: 260, Value: 1, Max: 16})
	zeros, tail := filled("\x00", 256), filled("\x00", 224)
	want := []string{
		"\x00\x00\x00\x00" + zeros,
		"\x00\x01\x00\x00" + zeros,
		"\x00\x01\x00\x00" + filled("\x00", 31) + "\x7f" + tail,
		"\x00\x01\x00\x00" + filled("\x00", 31) + "\x80" + tail,
		"\x00\x01\x00\x00" + filled("\xff", 32) + tail,
		"\x00\x08\x00\x00" + zeros,
		"\x00\x08\x00\x00" + filled("\xff", 256),
		"\x01\x00\x00\x00" + zeros,
		"\x01\x00\x00\x00\x80" + zeros[1:],
		"\x01\x01\x00\x00" + zeros,
		"\x08\x00\x00\x00\x0a" + zeros[1:],
		"\x80\x00\x00\x00" + zeros,
		"\xff\x00\x00\x00" + zeros,
		"\xff\x07\x00\x00" + zeros,
	}
	for i := range want {
		wantUpdate(t, x, want[i*5%len(want)], "v", api.UpdateNoExist, api.OK)
	}
	wantNext(t, x, "", want[0], api.OK)
	for i, k := range want[1:] {
		wantNext(t, x, want[i], k, api.OK)
	}
	wantNext(t, x, want[len(want)-1], "", api.ErrNone)
	wantNext(t, x, key(2, "\xff"+zeros[1:]), want[10], api.OK)
	wantNext(t, x, key(512, "\xff"+zeros[1:]), want[5], api.OK)
}

// 11.1: what Next told is no part of the table: it is the same behind all that is done.
func TestNextTellsCopies(t *testing.T) {
	x, _ := with(t, 3, eight, twelve)
	k, _ := x.Next("")
	wantDelete(t, x, k, api.OK)
	wantUpdate(t, x, beside, "new", api.UpdateAny, api.OK)
	if k != eight {
		t.Errorf("it is %x now", k)
	}
	wantNext(t, x, k, twelve, api.OK)
}
