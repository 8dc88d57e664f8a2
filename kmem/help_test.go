package kmem_test

import (
	"slices"
	"testing"

	"portcullis/api"
	"portcullis/kmem"
)

const both = api.PermRead | api.PermWrite

// at is the address of a region's byte.
func at(number, offset int) uint64 { return uint64(number)<<32 + uint64(offset) }

// alloc makes a region that must be taken.
func alloc(t *testing.T, m *kmem.Mem, size, perm int) uint64 {
	t.Helper()
	a, e := m.Alloc(size, perm)
	if e != api.OK {
		t.Fatalf("Alloc(%d, %d): error %d", size, perm, e)
	}
	return a
}

// put lays bytes that must be taken.
func put(t *testing.T, m *kmem.Mem, addr uint64, s string) {
	t.Helper()
	if e := m.Put(addr, s); e != api.OK {
		t.Fatalf("Put(%#x, %d bytes): error %d", addr, len(s), e)
	}
}

// wantErr holds a call's error against the one that is due.
func wantErr(t *testing.T, what string, got, want api.Errno) {
	t.Helper()
	if got != want {
		t.Errorf("%s: error %d; want %d", what, got, want)
	}
}

// wantRegions holds all of the memory against what is due.
func wantRegions(t *testing.T, m *kmem.Mem, want ...api.Region) {
	t.Helper()
	if got := m.Regions(); !slices.Equal(got, want) {
		t.Errorf("Regions: %#v; want %#v", got, want)
	}
}

// wantNumbers holds the live regions' numbers against those that are due.
func wantNumbers(t *testing.T, m *kmem.Mem, want ...int) {
	t.Helper()
	var got []int
	for _, r := range m.Regions() {
		got = append(got, r.Number)
	}
	if !slices.Equal(got, want) {
		t.Errorf("live regions: %v; want %v", got, want)
	}
}
