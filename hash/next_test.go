package hash_test

import (
	"testing"

	"portcullis/api"
)

// 10.2: the least key above one, whether that one is there or not.
func TestNext(t *testing.T) {
	for _, kind := range kinds {
		x, _ := with(t, kind, 8, "cc", "aa", "ee", "bb")
		for _, c := range []struct{ key, want string }{
			{"\x00\x00", "aa"},
			{"a`", "aa"},
			{"aa", "bb"},
			{"ab", "bb"},
			{"ba", "bb"},
			{"bb", "cc"},
			{"bc", "cc"},
			{"cc", "ee"},
			{"dd", "ee"},
			{"ed", "ee"},
		} {
			wantNext(t, x, c.key, c.want, api.OK)
		}
		for _, k := range []string{"ee", "ef", "fa", "\xff\xff"} {
			wantNext(t, x, k, "", api.ErrNone)
		}
		wantDelete(t, x, "bb", api.OK)
		wantNext(t, x, "aa", "cc", api.OK)
		wantNext(t, x, "bb", "cc", api.OK)
		wantKeys(t, x, "aa", "cc", "ee")
	}
}

// 10.2: of a key of another length the least key of all, wherever the bytes of that one would stand.
func TestNextOfOtherLengths(t *testing.T) {
	for _, kind := range kinds {
		x, _ := with(t, kind, 3, "bb", "aa")
		for _, k := range append([]string{"b", "c", "bbb", "bb\x00", "\xff\xff\xff", "z", "\xff"}, notKeys...) {
			wantNext(t, x, k, "aa", api.OK)
		}
	}
}

// 10.2: without entries there is no next key of any.
func TestNextOfEmpty(t *testing.T) {
	for _, kind := range kinds {
		x, _ := with(t, kind, 3)
		wantNothing := func() {
			t.Helper()
			for _, k := range append([]string{"aa", "\x00\x00", "\xff\xff"}, notKeys...) {
				wantNext(t, x, k, "", api.ErrNone)
			}
		}
		wantNothing()
		wantUpdate(t, x, "aa", "aa1", api.UpdateAny, api.OK)
		wantDelete(t, x, "aa", api.OK)
		wantNothing()
	}
}

// 10.2: the order is that of bytes from 0 to 255, the first one ahead of the others.
func TestNextOrder(t *testing.T) {
	for _, kind := range kinds {
		x, _ := with(t, kind, 16, "\xff\xff", "\x80\x00", "\x7f\xff", "\x00\xff", "\xff\x00", "\x00\x00", "\x01\x00", "\x00\x80", "\x00\x7f", "\xc3\xa9")
		want := []string{"\x00\x00", "\x00\x7f", "\x00\x80", "\x00\xff", "\x01\x00", "\x7f\xff", "\x80\x00", "\xc3\xa9", "\xff\x00", "\xff\xff"}
		wantNext(t, x, "", want[0], api.OK)
		for i, k := range want[1:] {
			wantNext(t, x, want[i], k, api.OK)
		}
		wantNext(t, x, "\xff\xff", "", api.ErrNone)
		wantNext(t, x, "\xff\xfe", "\xff\xff", api.OK)
	}
}

// 10.2: the longest keys that differ in their last or their first byte alone.
func TestNextOfLongKeys(t *testing.T) {
	for _, kind := range kinds {
		x, _ := build(t, api.MapSpec{Kind: kind, Key: api.MaxKey, Value: 1, Max: 4})
		middle := filled("m", api.MaxKey-1)
		want := []string{"l" + middle, middle + "\x01", middle + "\xf0", "\x90" + middle}
		for _, i := range []int{2, 3, 0, 1} {
			wantUpdate(t, x, want[i], "v", api.UpdateAny, api.OK)
		}
		wantKeys(t, x, want...)
		wantNext(t, x, middle+"\x00", want[1], api.OK)
		wantNext(t, x, middle+"\x7f", want[2], api.OK)
		wantNext(t, x, middle, want[0], api.OK) // a byte short
		wantNext(t, x, want[3]+"\x00", want[0], api.OK)
		wantNext(t, x, want[3], "", api.ErrNone)
	}
}
