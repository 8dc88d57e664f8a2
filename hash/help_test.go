package hash_test

import (
	"slices"
	"strings"
	"testing"

	"portcullis/api"
	"portcullis/hash"
	"portcullis/kmem"
)

const (
	both   = api.PermRead | api.PermWrite
	region = 1 << 32 // from one region's first address to the next one's
)

// kinds is those of which there are tables.
var kinds = []int{api.MapHash, api.MapLru}

// spec is a table's with keys of 2 bytes and values of 3.
func spec(kind, most int) api.MapSpec {
	return api.MapSpec{Kind: kind, Key: 2, Value: 3, Max: most}
}

// build makes a table that must be taken, in a memory of its own.
func build(t *testing.T, s api.MapSpec) (*hash.Map, *kmem.Mem) {
	t.Helper()
	m := kmem.New()
	return buildIn(t, m, s), m
}

// buildIn makes a table that must be taken.
func buildIn(t *testing.T, m *kmem.Mem, s api.MapSpec) *hash.Map {
	t.Helper()
	x, e := hash.New(m, s)
	if x == nil || e != api.OK {
		t.Fatalf("New(%v): %v, error %d", s, x, e)
	}
	return x
}

// with makes a table of spec(kind, most) in which the keys are, in that order: the first one's region is 1, the next one's 2.
func with(t *testing.T, kind, most int, keys ...string) (*hash.Map, *kmem.Mem) {
	t.Helper()
	x, m := build(t, spec(kind, most))
	for _, k := range keys {
		wantUpdate(t, x, k, first(k), api.UpdateAny, api.OK)
	}
	wantKeys(t, x, keys...)
	return x, m
}

// first is the value that a key has at first.
func first(key string) string { return key + "1" }

// firsts is the regions of so many keys, numbered from 1 on.
func firsts(keys ...string) []api.Region {
	var l []api.Region
	for i, k := range keys {
		l = append(l, held(i+1, first(k)))
	}
	return l
}

// held is the region of a value.
func held(number int, value string) api.Region {
	return api.Region{Number: number, Perm: both, Bytes: value}
}

// row is n keys of 2 bytes, rising.
func row(n int) []string {
	var l []string
	for i := range n {
		l = append(l, string([]byte{byte(i >> 8), byte(i)}))
	}
	return l
}

// filled is n bytes, each of which is s.
func filled(s string, n int) string { return strings.Repeat(s, max(n, 0)) }

// wantErr holds a call's error against the one that is due.
func wantErr(t *testing.T, what string, got, want api.Errno) {
	t.Helper()
	if got != want {
		t.Errorf("%s: error %d; want %d", what, got, want)
	}
}

// wantRefused looks whether New refuses.
func wantRefused(t *testing.T, m *kmem.Mem, s api.MapSpec) {
	t.Helper()
	if x, e := hash.New(m, s); x != nil || e != api.ErrArg {
		t.Errorf("New(%v): %v, error %d; want nil, error %d", s, x, e, api.ErrArg)
	}
}

// wantAt looks at what Lookup tells; this uses the entry.
func wantAt(t *testing.T, x *hash.Map, key string, want uint64) {
	t.Helper()
	if got := x.Lookup(key); got != want {
		t.Errorf("Lookup(%q): %#x; want %#x", key, got, want)
	}
}

// wantUpdate looks at what Update tells.
func wantUpdate(t *testing.T, x *hash.Map, key, value string, flags int, want api.Errno) {
	t.Helper()
	if got := x.Update(key, value, flags); got != want {
		t.Errorf("Update(%q, %d bytes, %d): error %d; want %d", key, len(value), flags, got, want)
	}
}

// wantDelete looks at what Delete tells.
func wantDelete(t *testing.T, x *hash.Map, key string, want api.Errno) {
	t.Helper()
	if got := x.Delete(key); got != want {
		t.Errorf("Delete(%q): error %d; want %d", key, got, want)
	}
}

// wantNext looks at what Next tells.
func wantNext(t *testing.T, x *hash.Map, key, want string, err api.Errno) {
	t.Helper()
	if got, e := x.Next(key); got != want || e != err {
		t.Errorf("Next(%q): %q, error %d; want %q, error %d", key, got, e, want, err)
	}
}

// told is the keys that Next tells one behind the other, from the least on; more than there may be, if it doesn't end.
func told(x *hash.Map) []string {
	var l []string
	k, e := x.Next("")
	for e == api.OK && len(l) <= api.MaxEntries {
		l = append(l, k)
		k, e = x.Next(k)
	}
	return l
}

// wantKeys looks whether these keys are there, and no others: by Next and Len, which use no entry.
func wantKeys(t *testing.T, x *hash.Map, keys ...string) {
	t.Helper()
	if got, want := told(x), slices.Sorted(slices.Values(keys)); !slices.Equal(got, want) {
		t.Errorf("keys: %q; want %q", got, want)
	}
	if got := x.Len(); got != len(keys) {
		t.Errorf("Len: %d; want %d", got, len(keys))
	}
}

// wantRegions holds all of the memory against what is due.
func wantRegions(t *testing.T, m *kmem.Mem, want ...api.Region) {
	t.Helper()
	got := m.Regions()
	if len(got) != len(want) {
		t.Errorf("%d regions; want %d", len(got), len(want))
		return
	}
	for i, r := range got {
		if r != want[i] {
			t.Errorf("region %d, perm %d: %q; want region %d, perm %d: %q", r.Number, r.Perm, r.Bytes, want[i].Number, want[i].Perm, want[i].Bytes)
		}
	}
}

// wantBytes looks at the bytes at an address.
func wantBytes(t *testing.T, m *kmem.Mem, addr uint64, want string) {
	t.Helper()
	if got, e := m.Bytes(addr, len(want)); got != want || e != api.OK {
		t.Errorf("bytes at %#x: %q, error %d; want %q", addr, got, e, want)
	}
}

// wantFault looks whether a byte's read tells a fault.
func wantFault(t *testing.T, m *kmem.Mem, addr uint64, want api.Errno) {
	t.Helper()
	_, e := m.Read(addr, 1)
	wantErr(t, "Read", e, want)
}

// wantLeaves makes new entries of a full table that forgets, and looks whether these keys go, one with each.
func wantLeaves(t *testing.T, x *hash.Map, keys ...string) {
	t.Helper()
	for i, k := range keys {
		before := told(x)
		if !slices.Contains(before, k) {
			t.Errorf("%q is not there, and can't go", k)
		}
		wantUpdate(t, x, string([]byte{0xfe, byte(i)}), "new", api.UpdateNoExist, api.OK)
		left := slices.DeleteFunc(before, func(other string) bool { return other == k })
		wantKeys(t, x, append(left, string([]byte{0xfe, byte(i)}))...)
	}
}
