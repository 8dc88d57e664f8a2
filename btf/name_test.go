package btf_test

import (
	"strings"
	"testing"

	"portcullis/btf"
)

// The bytes that a name may have, and those with which it may begin.
const (
	firstBytes = "ABCDEFGHIJKLMNOPQRSTUVWXYZabcdefghijklmnopqrstuvwxyz_"
	nameBytes  = firstBytes + "0123456789"
)

// wantName looks at what Name tells of s.
func wantName(t *testing.T, s string, want bool) {
	t.Helper()
	if got := btf.Name(s); got != want {
		t.Errorf("Name(%q), of %d bytes: %v; want %v", start(s), len(s), got, want)
	}
}

// 6.1: each byte alone, ahead, in the middle and at the end.
func TestNameBytes(t *testing.T) {
	for n := range 256 {
		c := string([]byte{byte(n)})
		first, inside := strings.Contains(firstBytes, c), strings.Contains(nameBytes, c)
		wantName(t, c, first)
		wantName(t, c+c, first)
		wantName(t, c+"a", first)
		wantName(t, c+"7_", first)
		wantName(t, "a"+c, inside)
		wantName(t, "_"+c+"9", inside)
		wantName(t, "Zz"+c+c+"A", inside)
		wantName(t, strings.Repeat("x", 127)+c, inside)
		wantName(t, strings.Repeat("x", 128)+c, false)
	}
}

// 6.1: names of few and of many bytes.
func TestNameLengths(t *testing.T) {
	wantName(t, "", true)
	for n := range 128 {
		wantName(t, strings.Repeat("a", n+1), true)
		wantName(t, "_"+strings.Repeat("0", n), true)
		wantName(t, "5"+strings.Repeat("a", n), false)
	}
	for _, n := range []int{129, 130, 255, 256, 257, 1 << 16, 1<<16 + 1, 1 << 20} {
		wantName(t, strings.Repeat("a", n), false)
		wantName(t, "_"+strings.Repeat("0", n-1), false)
	}
}

// 6.1: texts that are names, and texts that are not.
func TestNameTexts(t *testing.T) {
	for _, s := range []string{"a", "z", "A", "Z", "_", "__", "u32", "a0", "_9", "task_struct", "T1_", nameBytes} {
		wantName(t, s, true)
	}
	for _, s := range []string{
		"0", "9", "9a", "0_", " ", "a b", " a", "a ", "a.b", "a-b", "a\x00", "\x00", "\x00a", "a\x00b", "a\n", "@", "[", "`", "{", "/", ":",
		"é", "aé", "a\xff", "\xffa", "a\u0661", "ａ", "a" + "\u200b", "a$", "a*", "struct a",
	} {
		wantName(t, s, false)
	}
}
