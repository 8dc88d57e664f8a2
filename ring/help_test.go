package ring_test

import (
	"bytes"
	"slices"
	"strconv"
	"testing"

	"portcullis/api"
	"portcullis/kmem"
	"portcullis/ring"
)

const (
	both   = api.PermRead | api.PermWrite
	region = 1 << 32 // from one region's first address to the next one's
)

// spec is a ring's of most bytes.
func spec(most int) api.MapSpec { return api.MapSpec{Kind: api.MapRing, Max: most} }

// build makes a ring that must be taken, in a memory of its own.
func build(t *testing.T, most int) (*ring.Map, *kmem.Mem) {
	t.Helper()
	m := kmem.New()
	return buildIn(t, m, most), m
}

// buildIn makes a ring that must be taken.
func buildIn(t *testing.T, m *kmem.Mem, most int) *ring.Map {
	t.Helper()
	x, e := ring.New(m, spec(most))
	if x == nil || e != api.OK {
		t.Fatalf("New of %d bytes: %v, error %d", most, x, e)
	}
	return x
}

// with makes a ring of most bytes with held records of these sizes: the first one's region is 1, the next one's 2.
func with(t *testing.T, most int, sizes ...int) (*ring.Map, *kmem.Mem) {
	t.Helper()
	x, m := build(t, most)
	used := 0
	for i, size := range sizes {
		wantReserve(t, x, size, at(i+1), api.OK)
		used += takes(size)
	}
	wantUsed(t, x, used)
	return x, m
}

// at is the first address of the region of that number.
func at(number int) uint64 { return uint64(number) * region }

// takes is how many bytes a record of size bytes uses.
func takes(size int) int {
	for size%8 != 0 {
		size++
	}
	return 8 + size
}

// row is n bytes, of which each is another one than the next.
func row(first byte, n int) string {
	b := make([]byte, max(n, 0))
	for i := range b {
		b[i] = first + byte(i)*7
	}
	return string(b)
}

// zeros is n bytes 0.
func zeros(n int) string { return string(make([]byte, n)) }

// filled is n bytes b.
func filled(b byte, n int) string { return string(bytes.Repeat([]byte{b}, n)) }

// live is a region that may be read and written.
func live(number int, bytes string) api.Region {
	return api.Region{Number: number, Perm: both, Bytes: bytes}
}

// wantErr holds a call's error against the one that is due.
func wantErr(t *testing.T, what string, got, want api.Errno) {
	t.Helper()
	if got != want {
		t.Errorf("%s: error %d; want %d", what, got, want)
	}
}

// wantRefused looks whether New refuses.
func wantRefused(t *testing.T, m *kmem.Mem, s api.MapSpec) {
	t.Helper()
	if x, e := ring.New(m, s); x != nil || e != api.ErrArg {
		t.Errorf("New(%v): %v, error %d; want nil, error %d", s, x, e, api.ErrArg)
	}
}

// wantReserve looks at what Reserve tells.
func wantReserve(t *testing.T, x *ring.Map, size int, want uint64, err api.Errno) {
	t.Helper()
	if got, e := x.Reserve(size); got != want || e != err {
		t.Errorf("Reserve(%d): %#x, error %d; want %#x, error %d", size, got, e, want, err)
	}
}

// wantSubmit looks at what Submit tells.
func wantSubmit(t *testing.T, x *ring.Map, addr uint64, want api.Errno) {
	t.Helper()
	if got := x.Submit(addr); got != want {
		t.Errorf("Submit(%#x): error %d; want %d", addr, got, want)
	}
}

// wantDiscard looks at what Discard tells.
func wantDiscard(t *testing.T, x *ring.Map, addr uint64, want api.Errno) {
	t.Helper()
	if got := x.Discard(addr); got != want {
		t.Errorf("Discard(%#x): error %d; want %d", addr, got, want)
	}
}

// wantNoRecord looks whether neither Submit nor Discard takes an address.
func wantNoRecord(t *testing.T, x *ring.Map, addrs ...uint64) {
	t.Helper()
	for _, addr := range addrs {
		wantSubmit(t, x, addr, api.ErrArg)
		wantDiscard(t, x, addr, api.ErrArg)
	}
}

// wantOutput looks at what Output tells.
func wantOutput(t *testing.T, x *ring.Map, s string, want api.Errno) {
	t.Helper()
	if got := x.Output(s); got != want {
		t.Errorf("Output of %d bytes: error %d; want %d", len(s), got, want)
	}
}

// wantDrain looks at what Drain tells.
func wantDrain(t *testing.T, x *ring.Map, want ...string) {
	t.Helper()
	if got := x.Drain(); !slices.Equal(got, want) {
		t.Errorf("Drain: %s; want %s", short(got), short(want))
	}
}

// wantUsed looks at what Used tells.
func wantUsed(t *testing.T, x *ring.Map, want int) {
	t.Helper()
	if got := x.Used(); got != want {
		t.Errorf("Used: %d; want %d", got, want)
	}
}

// wantRegions holds all of the memory against what is due.
func wantRegions(t *testing.T, m *kmem.Mem, want ...api.Region) {
	t.Helper()
	got := m.Regions()
	if len(got) != len(want) {
		t.Errorf("%d regions; want %d", len(got), len(want))
		return
	}
	for i, r := range got {
		if r != want[i] {
			t.Errorf("region %d, perm %d: %q; want region %d, perm %d: %q", r.Number, r.Perm, r.Bytes, want[i].Number, want[i].Perm, want[i].Bytes)
		}
	}
}

// wantBytes looks at the bytes at an address.
func wantBytes(t *testing.T, m *kmem.Mem, addr uint64, want string) {
	t.Helper()
	if got, e := m.Bytes(addr, len(want)); got != want || e != api.OK {
		t.Errorf("bytes at %#x: %q, error %d; want %q", addr, got, e, want)
	}
}

// wantFault looks whether a byte's read tells a fault.
func wantFault(t *testing.T, m *kmem.Mem, addr uint64, want api.Errno) {
	t.Helper()
	_, e := m.Read(addr, 1)
	wantErr(t, "Read", e, want)
}

// put makes the bytes at an address those of s.
func put(t *testing.T, m *kmem.Mem, addr uint64, s string) {
	t.Helper()
	wantErr(t, "Put", m.Put(addr, s), api.OK)
}

// short is a list as a fault's text shows it.
func short(l []string) string {
	s := strconv.Itoa(len(l)) + " records"
	for i, text := range l {
		if i == 8 {
			return s + " .."
		}
		s += " " + strconv.Quote(text[:min(len(text), 40)]) + " of " + strconv.Itoa(len(text))
	}
	return s
}
