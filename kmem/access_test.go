package kmem_test

import (
	"math"
	"slices"
	"strings"
	"testing"

	"portcullis/api"
	"portcullis/kmem"
)

var badSizes = []int{-8, -1, 0, 3, 5, 6, 7, 9, 16, 64, 257, 1<<32 + 1, math.MinInt, math.MaxInt}

// 2.3: numbers of each size, little end first; those of an odd place, too.
func TestReadSizes(t *testing.T) {
	m := kmem.New()
	a := alloc(t, m, 12, both)
	put(t, m, a, "\x01\x02\x03\x84\x05\x06\x07\x88\x09\xff\xfe\xfd")
	for _, c := range []struct {
		offset, size int
		want         uint64
	}{
		{0, 1, 0x01},
		{3, 1, 0x84},
		{11, 1, 0xfd},
		{0, 2, 0x0201},
		{3, 2, 0x0584},
		{10, 2, 0xfdfe},
		{0, 4, 0x84030201},
		{5, 4, 0x09880706},
		{8, 4, 0xfdfeff09},
		{0, 8, 0x8807060584030201},
		{4, 8, 0xfdfeff0988070605},
	} {
		if n, e := m.Read(at(1, c.offset), c.size); n != c.want || e != api.OK {
			t.Errorf("Read(offset %d, %d): %#x, error %d; want %#x", c.offset, c.size, n, e, c.want)
		}
	}
}

// 2.3: of a number its lowest bytes are written, little end first, and no byte beside them.
func TestWriteSizes(t *testing.T) {
	for _, c := range []struct {
		offset, size int
		want         string
	}{
		{0, 1, "\x88..........."},
		{11, 1, "...........\x88"},
		{3, 2, "...\x88\x77......."},
		{10, 2, "..........\x88\x77"},
		{5, 4, ".....\x88\x77\x66\x55..."},
		{8, 4, "........\x88\x77\x66\x55"},
		{0, 8, "\x88\x77\x66\x55\x44\x33\x22\x11...."},
		{4, 8, "....\x88\x77\x66\x55\x44\x33\x22\x11"},
	} {
		m := kmem.New()
		put(t, m, alloc(t, m, 12, both), "............")
		wantErr(t, "Write", m.Write(at(1, c.offset), c.size, 0x1122334455667788), api.OK)
		wantRegions(t, m, api.Region{Number: 1, Perm: both, Bytes: c.want})
	}
}

// 2.3: the chapter's example.
func TestWriteExample(t *testing.T) {
	m := kmem.New()
	a := alloc(t, m, 8, both)
	wantErr(t, "Write", m.Write(1<<32+4, 4, 1<<32+5), api.OK)
	if n, e := m.Read(a, 8); n != 5<<32 || e != api.OK {
		t.Errorf("Read: %#x, error %d", n, e)
	}
}

// 2.3: other sizes are refused ahead of all faults.
func TestBadSizes(t *testing.T) {
	m := three(t)
	for _, size := range badSizes {
		for _, addr := range []uint64{at(1, 0), at(1, 100), at(2, 0), at(9, 0), 0} {
			if n, e := m.Read(addr, size); n != 0 || e != api.ErrArg {
				t.Errorf("Read(%#x, %d): %#x, error %d", addr, size, n, e)
			}
			if e := m.Write(addr, size, math.MaxUint64); e != api.ErrArg {
				t.Errorf("Write(%#x, %d): error %d", addr, size, e)
			}
		}
	}
	wantRegions(t, m, api.Region{Number: 1, Perm: both, Bytes: "11111111"}, api.Region{Number: 3, Perm: both, Bytes: "33333333"})
}

// faultCase is what is told of n bytes at an address of faulty's memory.
type faultCase struct {
	addr        uint64
	n           int
	read, write api.Errno // of Read and Write
	bytes       api.Errno // of Bytes and Put
}

// faultCases has all faults, and pairs of which both could be told.
var faultCases = []faultCase{
	{at(1, 0), 8, api.OK, api.OK, api.OK},
	{at(1, 7), 1, api.OK, api.OK, api.OK},
	{at(1, 8), 1, api.FaultBound, api.FaultBound, api.FaultBound},
	{at(1, 1), 8, api.FaultBound, api.FaultBound, api.FaultBound},
	{at(1, 5), 4, api.FaultBound, api.FaultBound, api.FaultBound},
	{at(1, 7), 2, api.FaultBound, api.FaultBound, api.FaultBound},
	{at(1, 1<<32-1), 1, api.FaultBound, api.FaultBound, api.FaultBound},
	{at(1, 1<<32-8), 8, api.FaultBound, api.FaultBound, api.FaultBound},
	{at(1, 1<<32-1), 8, api.FaultBound, api.FaultBound, api.FaultBound},
	{at(2, 4), 4, api.OK, api.FaultPerm, api.OK},
	{at(2, 5), 4, api.FaultBound, api.FaultPerm, api.FaultBound},
	{at(3, 4), 4, api.FaultPerm, api.OK, api.OK},
	{at(3, 5), 4, api.FaultPerm, api.FaultBound, api.FaultBound},
	{at(4, 0), 1, api.FaultFreed, api.FaultFreed, api.FaultFreed},
	{at(4, 100), 1, api.FaultFreed, api.FaultFreed, api.FaultFreed},
	{at(5, 0), 1, api.FaultFreed, api.FaultFreed, api.FaultFreed},
	{at(5, 100), 8, api.FaultFreed, api.FaultFreed, api.FaultFreed},
	{at(6, 0), 4, api.FaultFreed, api.FaultFreed, api.FaultFreed},
	{at(7, 0), 1, api.FaultNull, api.FaultNull, api.FaultNull},
	{at(7, 100), 1, api.FaultNull, api.FaultNull, api.FaultNull},
	{0, 1, api.FaultNull, api.FaultNull, api.FaultNull},
	{1<<32 - 1, 1, api.FaultNull, api.FaultNull, api.FaultNull},
	{1<<32 - 1, 2, api.FaultNull, api.FaultNull, api.FaultNull},
	{math.MaxUint64, 1, api.FaultNull, api.FaultNull, api.FaultNull},
	{math.MaxUint64, 8, api.FaultNull, api.FaultNull, api.FaultNull},
}

// faulty makes a memory whose regions 1 (both), 2 (to read) and 3 (to write) are live, 4 to 6 (one of each perm) are not.
func faulty(t *testing.T) *kmem.Mem {
	t.Helper()
	m := kmem.New()
	for _, perm := range []int{both, api.PermRead, api.PermWrite, both, api.PermRead, api.PermWrite} {
		put(t, m, alloc(t, m, 8, perm), "abcdefgh")
	}
	m.Free(at(4, 0))
	m.Free(at(5, 0))
	m.Retire(at(6, 0))
	m.Grace()
	return m
}

// 2.3: each fault, and which one comes ahead; beside it nothing is read.
func TestFaults(t *testing.T) {
	m := faulty(t)
	for _, c := range faultCases {
		n, e := m.Read(c.addr, c.n)
		if e != c.read || e != api.OK && n != 0 {
			t.Errorf("Read(%#x, %d): %#x, error %d; want error %d", c.addr, c.n, n, e, c.read)
		}
		s, e := m.Bytes(c.addr, c.n)
		if e != c.bytes || e != api.OK && s != "" {
			t.Errorf("Bytes(%#x, %d): %q, error %d; want error %d", c.addr, c.n, s, e, c.bytes)
		}
		if e := m.Write(c.addr, c.n, 0); e != c.write {
			t.Errorf("Write(%#x, %d): error %d; want %d", c.addr, c.n, e, c.write)
		}
		if e := m.Put(c.addr, strings.Repeat("x", c.n)); e != c.bytes {
			t.Errorf("Put(%#x, %d bytes): error %d; want %d", c.addr, c.n, e, c.bytes)
		}
	}
}

// 2.3: a memory without regions has none of any number.
func TestFaultsOfEmpty(t *testing.T) {
	m := kmem.New()
	for _, addr := range []uint64{0, at(1, 0), math.MaxUint64} {
		_, e := m.Read(addr, 1)
		wantErr(t, "Read", e, api.FaultNull)
		wantErr(t, "Write", m.Write(addr, 1, 1), api.FaultNull)
		_, e = m.Bytes(addr, 0)
		wantErr(t, "Bytes", e, api.FaultNull)
		wantErr(t, "Put", m.Put(addr, ""), api.FaultNull)
		_, e = m.Size(addr)
		wantErr(t, "Size", e, api.FaultNull)
	}
	wantRegions(t, m)
}

// 2.3: Bytes and Put look at no perm.
func TestBytesAndPut(t *testing.T) {
	for perm := 1; perm <= 3; perm++ {
		m := kmem.New()
		put(t, m, alloc(t, m, 8, perm), "abcdefgh")
		wantErr(t, "Put", m.Put(at(1, 2), "\x00\xff\n"), api.OK)
		if s, e := m.Bytes(at(1, 1), 6); s != "b\x00\xff\nfg" || e != api.OK {
			t.Errorf("Bytes of perm %d: %q, error %d", perm, s, e)
		}
		wantRegions(t, m, api.Region{Number: 1, Perm: perm, Bytes: "ab\x00\xff\nfgh"})
	}
}

// 2.3: no bytes lie at each offset up to the size, not behind it; the faults are the same.
func TestNoBytes(t *testing.T) {
	m := faulty(t)
	for _, c := range []struct {
		addr uint64
		want api.Errno
	}{
		{at(1, 0), api.OK},
		{at(1, 7), api.OK},
		{at(1, 8), api.OK},
		{at(2, 8), api.OK},
		{at(3, 8), api.OK},
		{at(1, 9), api.FaultBound},
		{at(1, 1<<32-1), api.FaultBound},
		{at(4, 0), api.FaultFreed},
		{at(6, 9), api.FaultFreed},
		{at(7, 0), api.FaultNull},
		{0, api.FaultNull},
	} {
		if s, e := m.Bytes(c.addr, 0); s != "" || e != c.want {
			t.Errorf("Bytes(%#x, 0): %q, error %d; want error %d", c.addr, s, e, c.want)
		}
		if e := m.Put(c.addr, ""); e != c.want {
			t.Errorf("Put(%#x, no bytes): error %d; want %d", c.addr, e, c.want)
		}
	}
}

// 2.3: Bytes and Put of 2^20 bytes, and of more, which is refused ahead of all faults.
func TestMostBytes(t *testing.T) {
	m := kmem.New()
	a := alloc(t, m, api.MaxRegion, both)
	b := alloc(t, m, api.MaxRegion-1, both)
	most := strings.Repeat("0123456789abcdef", api.MaxRegion/16)
	wantErr(t, "Put of all", m.Put(a, most), api.OK)
	if s, e := m.Bytes(a, api.MaxRegion); s != most || e != api.OK {
		t.Errorf("Bytes of all: %d bytes, error %d", len(s), e)
	}
	wantErr(t, "Put, one byte over the end", m.Put(b, most), api.FaultBound)
	s, e := m.Bytes(b, api.MaxRegion)
	if s != "" || e != api.FaultBound {
		t.Errorf("Bytes, one byte over the end: %d bytes, error %d", len(s), e)
	}
	for _, addr := range []uint64{a, b, at(3, 0), 0} {
		wantErr(t, "Put of too many", m.Put(addr, most+"g"), api.ErrArg)
		for _, n := range []int{api.MaxRegion + 1, -1, math.MinInt, math.MaxInt} {
			if s, e := m.Bytes(addr, n); s != "" || e != api.ErrArg {
				t.Errorf("Bytes(%#x, %d): %d bytes, error %d", addr, n, len(s), e)
			}
		}
	}
}

// 2.3: Size of each address within a region; at and behind its end, and of others, the fault.
func TestSize(t *testing.T) {
	m := faulty(t)
	alloc(t, m, 1, api.PermWrite)
	for _, c := range []struct {
		addr uint64
		size int
		want api.Errno
	}{
		{at(1, 0), 8, api.OK},
		{at(1, 7), 8, api.OK},
		{at(2, 3), 8, api.OK},
		{at(3, 3), 8, api.OK},
		{at(7, 0), 1, api.OK},
		{at(7, 1), 0, api.FaultBound},
		{at(1, 8), 0, api.FaultBound},
		{at(3, 8), 0, api.FaultBound},
		{at(1, 1<<32-1), 0, api.FaultBound},
		{at(4, 0), 0, api.FaultFreed},
		{at(4, 9), 0, api.FaultFreed},
		{at(6, 0), 0, api.FaultFreed},
		{at(8, 0), 0, api.FaultNull},
		{at(8, 9), 0, api.FaultNull},
		{0, 0, api.FaultNull},
		{math.MaxUint64, 0, api.FaultNull},
	} {
		if n, e := m.Size(c.addr); n != c.size || e != c.want {
			t.Errorf("Size(%#x): %d, error %d; want %d, error %d", c.addr, n, e, c.size, c.want)
		}
	}
}

// 2.3: Regions has the live ones, by rising numbers, with what may be done with them and their bytes.
func TestRegions(t *testing.T) {
	m := kmem.New()
	for i := range 40 {
		put(t, m, alloc(t, m, 1+i%2, 1+i%3), string(rune('A'+i)))
	}
	var want []api.Region
	for i := range 40 {
		number := i + 1
		switch {
		case i%5 == 1:
			m.Free(at(number, 0))
			continue
		case i%5 == 2:
			m.Retire(at(number, 0))
		}
		want = append(want, api.Region{Number: number, Perm: 1 + i%3, Bytes: string(rune('A'+i)) + strings.Repeat("\x00", i%2)})
	}
	wantRegions(t, m, want...)
	m.Grace()
	wantRegions(t, m, slices.DeleteFunc(want, func(r api.Region) bool { return r.Number%5 == 3 })...)
}

// R4: what Regions and Bytes told stays, whatever is written later, and an answer that is changed changes nothing.
func TestAnswersAreNew(t *testing.T) {
	m := kmem.New()
	a := alloc(t, m, 3, both)
	put(t, m, a, "abc")
	s, _ := m.Bytes(a, 3)
	l := m.Regions()
	put(t, m, a, "xyz")
	if s != "abc" || l[0].Bytes != "abc" {
		t.Errorf("what was told became %q and %q", s, l[0].Bytes)
	}
	l[0] = api.Region{}
	wantRegions(t, m, api.Region{Number: 1, Perm: both, Bytes: "xyz"})
}

// 2.3: every call on nil.
func TestNil(t *testing.T) {
	var m *kmem.Mem
	a, e := m.Alloc(8, both)
	if a != 0 || e != api.ErrArg {
		t.Errorf("Alloc: %#x, error %d", a, e)
	}
	wantErr(t, "Fail", m.Fail(0), api.ErrArg)
	wantErr(t, "Free", m.Free(at(1, 0)), api.ErrArg)
	wantErr(t, "Retire", m.Retire(at(1, 0)), api.ErrArg)
	m.Grace()
	n, e := m.Read(at(1, 0), 8)
	if n != 0 || e != api.ErrArg {
		t.Errorf("Read: %#x, error %d", n, e)
	}
	wantErr(t, "Write", m.Write(at(1, 0), 8, 1), api.ErrArg)
	s, e := m.Bytes(at(1, 0), 0)
	if s != "" || e != api.ErrArg {
		t.Errorf("Bytes: %q, error %d", s, e)
	}
	wantErr(t, "Put", m.Put(at(1, 0), ""), api.ErrArg)
	size, e := m.Size(at(1, 0))
	if size != 0 || e != api.ErrArg {
		t.Errorf("Size: %d, error %d", size, e)
	}
	wantRegions(t, m)
}
