package trie_test

import (
	"slices"
	"strconv"
	"strings"
	"testing"

	"portcullis/api"
	"portcullis/kmem"
	"portcullis/trie"
)

const (
	both   = api.PermRead | api.PermWrite
	region = 1 << 32 // from one region's first address to the next one's
)

// spec is a table's with keys of 6 bytes, two of them behind the length, and values of 3.
func spec(most int) api.MapSpec {
	return api.MapSpec{Kind: api.MapTrie, Key: 6, Value: 3, Max: most}
}

// key is a key: a length, and the bytes behind it.
func key(length uint32, bytes string) string {
	return string([]byte{byte(length), byte(length >> 8), byte(length >> 16), byte(length >> 24)}) + bytes
}

// notKeys is what is no key of 6 bytes: of another length, or with more bits than two bytes have.
var notKeys = []string{
	"", "\x00", "\x08\x00\x00\x00", key(8, "\x0a"), key(0, "\x00"), key(8, "\x0a\x00\x00"), key(0, "\x00\x00\x00"), key(8, "\x0a\x00\x00\x00\x00\x00"),
	key(17, "\x0a\x00"), key(1<<8, "\x0a\x00"), key(1<<8+8, "\x0a\x00"), key(1<<16+8, "\x0a\x00"), key(1<<24+8, "\x0a\x00"), key(1<<31+8, "\x0a\x00"), key(1<<32-1, "\x0a\x00"),
}

// build makes a table that must be taken, in a memory of its own.
func build(t *testing.T, s api.MapSpec) (*trie.Map, *kmem.Mem) {
	t.Helper()
	m := kmem.New()
	return buildIn(t, m, s), m
}

// buildIn makes a table that must be taken.
func buildIn(t *testing.T, m *kmem.Mem, s api.MapSpec) *trie.Map {
	t.Helper()
	x, e := trie.New(m, s)
	if x == nil || e != api.OK {
		t.Fatalf("New(%v): %v, error %d", s, x, e)
	}
	return x
}

// with makes a table of spec(most) in which these forms are, in that order: the first one's region is 1, the next one's 2.
func with(t *testing.T, most int, forms ...string) (*trie.Map, *kmem.Mem) {
	t.Helper()
	x, m := build(t, spec(most))
	for i, k := range forms {
		wantUpdate(t, x, k, first(i+1), api.UpdateNoExist, api.OK)
	}
	wantForms(t, x, forms...)
	return x, m
}

// first is the value that with gives the entry with that region.
func first(number int) string {
	s := "00" + strconv.Itoa(number)
	return s[len(s)-3:]
}

// firsts is the regions of so many entries that with made.
func firsts(count int) []api.Region {
	var l []api.Region
	for n := range count {
		l = append(l, held(n+1, first(n+1)))
	}
	return l
}

// held is the region of a value.
func held(number int, value string) api.Region {
	return api.Region{Number: number, Perm: both, Bytes: value}
}

// filled is n bytes, each of which is s.
func filled(s string, n int) string { return strings.Repeat(s, max(n, 0)) }

// flipped is a key of which one bit behind the length is the other one.
func flipped(k string, bit int) string {
	b := []byte(k)
	b[4+bit/8] ^= 0x80 >> (bit % 8)
	return string(b)
}

// wantErr holds a call's error against the one that is due.
func wantErr(t *testing.T, what string, got, want api.Errno) {
	t.Helper()
	if got != want {
		t.Errorf("%s: error %d; want %d", what, got, want)
	}
}

// wantRefused looks whether New refuses.
func wantRefused(t *testing.T, m *kmem.Mem, s api.MapSpec) {
	t.Helper()
	if x, e := trie.New(m, s); x != nil || e != api.ErrArg {
		t.Errorf("New(%v): %v, error %d; want nil, error %d", s, x, e, api.ErrArg)
	}
}

// wantAt looks at what Lookup tells.
func wantAt(t *testing.T, x *trie.Map, key string, want uint64) {
	t.Helper()
	if got := x.Lookup(key); got != want {
		t.Errorf("Lookup(%x): %#x; want %#x", key, got, want)
	}
}

// wantUpdate looks at what Update tells.
func wantUpdate(t *testing.T, x *trie.Map, key, value string, flags int, want api.Errno) {
	t.Helper()
	if got := x.Update(key, value, flags); got != want {
		t.Errorf("Update(%x, %d bytes, %d): error %d; want %d", key, len(value), flags, got, want)
	}
}

// wantDelete looks at what Delete tells.
func wantDelete(t *testing.T, x *trie.Map, key string, want api.Errno) {
	t.Helper()
	if got := x.Delete(key); got != want {
		t.Errorf("Delete(%x): error %d; want %d", key, got, want)
	}
}

// wantNext looks at what Next tells.
func wantNext(t *testing.T, x *trie.Map, key, want string, err api.Errno) {
	t.Helper()
	if got, e := x.Next(key); got != want || e != err {
		t.Errorf("Next(%x): %x, error %d; want %x, error %d", key, got, e, want, err)
	}
}

// told is the forms that Next tells one behind the other, from the least on; more than there may be, if it doesn't end.
func told(x *trie.Map) []string {
	var l []string
	k, e := x.Next("")
	for e == api.OK && len(l) <= api.MaxEntries {
		l = append(l, k)
		k, e = x.Next(k)
	}
	return l
}

// wantForms looks whether these forms are there, and no others.
func wantForms(t *testing.T, x *trie.Map, forms ...string) {
	t.Helper()
	if got, want := told(x), slices.Sorted(slices.Values(forms)); !slices.Equal(got, want) {
		t.Errorf("forms: %x; want %x", got, want)
	}
	if got := x.Len(); got != len(forms) {
		t.Errorf("Len: %d; want %d", got, len(forms))
	}
}

// wantRegions holds all of the memory against what is due.
func wantRegions(t *testing.T, m *kmem.Mem, want ...api.Region) {
	t.Helper()
	got := m.Regions()
	if len(got) != len(want) {
		t.Errorf("%d regions; want %d", len(got), len(want))
		return
	}
	for i, r := range got {
		if r != want[i] {
			t.Errorf("region %d, perm %d: %q; want region %d, perm %d: %q", r.Number, r.Perm, r.Bytes, want[i].Number, want[i].Perm, want[i].Bytes)
		}
	}
}

// wantBytes looks at the bytes at an address.
func wantBytes(t *testing.T, m *kmem.Mem, addr uint64, want string) {
	t.Helper()
	if got, e := m.Bytes(addr, len(want)); got != want || e != api.OK {
		t.Errorf("bytes at %#x: %q, error %d; want %q", addr, got, e, want)
	}
}

// wantFault looks whether a byte's read tells a fault.
func wantFault(t *testing.T, m *kmem.Mem, addr uint64, want api.Errno) {
	t.Helper()
	_, e := m.Read(addr, 1)
	wantErr(t, "Read", e, want)
}

// wantFails looks whether the Alloc that was to fail is still to come: nothing asked the memory ahead.
func wantFails(t *testing.T, m *kmem.Mem) {
	t.Helper()
	_, e := m.Alloc(1, both)
	wantErr(t, "the Alloc that was to fail", e, api.ErrMem)
}
