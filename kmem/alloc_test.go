package kmem_test

import (
	"math"
	"strings"
	"testing"

	"portcullis/api"
	"portcullis/kmem"
)

// 2.1: the sizes and perms that Alloc takes, and those past them.
func TestAllocArguments(t *testing.T) {
	for _, c := range []struct {
		size, perm int
		want       api.Errno
	}{
		{1, both, api.OK},
		{2, both, api.OK},
		{1<<20 - 1, both, api.OK},
		{1 << 20, both, api.OK},
		{1<<20 + 1, both, api.ErrArg},
		{0, both, api.ErrArg},
		{-1, both, api.ErrArg},
		{math.MinInt, both, api.ErrArg},
		{math.MaxInt, both, api.ErrArg},
		{8, 0, api.ErrArg},
		{8, 1, api.OK},
		{8, 2, api.OK},
		{8, 3, api.OK},
		{8, 4, api.ErrArg},
		{8, 5, api.ErrArg},
		{8, 7, api.ErrArg},
		{8, -1, api.ErrArg},
		{8, math.MinInt, api.ErrArg},
		{8, math.MaxInt, api.ErrArg},
		{0, 0, api.ErrArg},
	} {
		m := kmem.New()
		a, e := m.Alloc(c.size, c.perm)
		if c.want != api.OK {
			if a != 0 || e != c.want {
				t.Errorf("Alloc(%d, %d): %#x, error %d; want error %d", c.size, c.perm, a, e, c.want)
			}
			wantRegions(t, m)
			continue
		}
		if a != at(1, 0) || e != api.OK {
			t.Errorf("Alloc(%d, %d): %#x, error %d; want %#x", c.size, c.perm, a, e, at(1, 0))
		}
		wantRegions(t, m, api.Region{Number: 1, Perm: c.perm, Bytes: strings.Repeat("\x00", c.size)})
	}
}

// 2.1: numbers rise one by one; none of a freed region is used again, and a refused Alloc uses none.
func TestAllocNumbers(t *testing.T) {
	m := kmem.New()
	for i := 1; i <= 3; i++ {
		if a := alloc(t, m, i, both); a != at(i, 0) {
			t.Errorf("region %d begins at %#x", i, a)
		}
	}
	m.Free(at(3, 0))
	m.Free(at(1, 0))
	m.Alloc(0, both)
	m.Fail(1)
	if a, e := m.Alloc(1, both); a != 0 || e != api.ErrMem {
		t.Errorf("an Alloc that fails: %#x, error %d", a, e)
	}
	if a := alloc(t, m, 1, both); a != at(4, 0) {
		t.Errorf("behind a freed one and refused ones: %#x", a)
	}
	m.Retire(at(4, 0))
	m.Grace()
	if a := alloc(t, m, 1, both); a != at(5, 0) {
		t.Errorf("behind a retired one: %#x", a)
	}
	wantNumbers(t, m, 2, 5)
}

// 2.1: two memories count by themselves.
func TestAllocTwoMemories(t *testing.T) {
	m, o := kmem.New(), kmem.New()
	alloc(t, m, 1, both)
	alloc(t, m, 1, both)
	if a := alloc(t, o, 1, both); a != at(1, 0) {
		t.Errorf("another memory's first region begins at %#x", a)
	}
	wantErr(t, "an address of the other memory", o.Put(at(2, 0), "a"), api.FaultNull)
}

// 2.1: 4096 regions may be live, not one more; retired ones are live.
func TestAllocMostRegions(t *testing.T) {
	m := kmem.New()
	for range api.MaxRegions {
		alloc(t, m, 1, both)
	}
	wantFull := func() {
		t.Helper()
		if a, e := m.Alloc(1, both); a != 0 || e != api.ErrMem {
			t.Errorf("one Alloc too many: %#x, error %d", a, e)
		}
	}
	wantFull()
	_, e := m.Alloc(0, both)
	wantErr(t, "no size ahead of no room", e, api.ErrArg)
	m.Retire(at(7, 0))
	wantFull()
	m.Grace()
	if a := alloc(t, m, 1, both); a != at(4097, 0) {
		t.Errorf("the place of a retired one: %#x", a)
	}
	wantFull()
	m.Free(at(4096, 0))
	if a := alloc(t, m, 1, both); a != at(4098, 0) {
		t.Errorf("the place of a freed one: %#x", a)
	}
	wantFull()
	if n := len(m.Regions()); n != api.MaxRegions {
		t.Errorf("%d live", n)
	}
}

// fails tells which of the next n Allocs fail, each of which must be refused by ErrMem or not at all.
func fails(t *testing.T, m *kmem.Mem, n int) []int {
	t.Helper()
	var l []int
	for i := 1; i <= n; i++ {
		a, e := m.Alloc(1, both)
		switch e {
		case api.OK:
			m.Free(a)
		case api.ErrMem:
			l = append(l, i)
		default:
			t.Fatalf("Alloc %d: error %d", i, e)
		}
	}
	return l
}

// wantFail looks whether of the next Allocs the n-th alone fails; none, if n is 0.
func wantFail(t *testing.T, m *kmem.Mem, n int) {
	t.Helper()
	l := fails(t, m, n+3)
	if n == 0 && len(l) != 0 || n > 0 && (len(l) != 1 || l[0] != n) {
		t.Errorf("the Allocs that fail: %v; want %d", l, n)
	}
}

// 2.1: the n-th Alloc fails, and it alone.
func TestFail(t *testing.T) {
	m := kmem.New()
	wantFail(t, m, 0)
	for _, n := range []int{0, 1, 2, 7, 1 << 20} {
		wantErr(t, "Fail", m.Fail(n), api.OK)
		wantFail(t, m, n)
	}
}

// 2.1: a Fail takes the place of the one ahead, 0 too; one that is refused doesn't.
func TestFailAgain(t *testing.T) {
	for _, c := range []struct{ first, then, want int }{
		{2, 1, 1},
		{1, 3, 3},
		{3, 3, 3},
		{2, 0, 0},
		{2, -1, 2},
		{2, math.MinInt, 2},
		{2, 1<<20 + 1, 2},
		{2, math.MaxInt, 2},
		{0, -1, 0},
	} {
		m := kmem.New()
		m.Fail(c.first)
		due := api.OK
		if c.then < 0 || c.then > 1<<20 {
			due = api.ErrArg
		}
		wantErr(t, "Fail", m.Fail(c.then), due)
		wantFail(t, m, c.want)
	}
	m := kmem.New()
	m.Fail(3)
	fails(t, m, 2)
	m.Fail(2)
	wantFail(t, m, 2)
}

// 2.1: what is refused by ErrArg isn't counted, and no other call is; what is refused for want of room is.
func TestFailCounts(t *testing.T) {
	m := kmem.New()
	a := alloc(t, m, 8, both)
	m.Fail(2)
	m.Alloc(0, both)
	m.Alloc(1<<20+1, both)
	m.Alloc(1, 0)
	m.Alloc(1, 4)
	m.Write(a, 8, 1)
	m.Put(a, "abc")
	m.Retire(a)
	m.Grace()
	wantFail(t, m, 2)

	for range api.MaxRegions {
		alloc(t, m, 1, both)
	}
	m.Fail(2)
	_, e := m.Alloc(1, both)
	wantErr(t, "an Alloc without room", e, api.ErrMem)
	m.Free(at(m.Regions()[0].Number, 0))
	wantFail(t, m, 1)
}
