package kmem_test

import (
	"math"
	"testing"

	"portcullis/api"
	"portcullis/kmem"
)

// notFirst is addresses at which no live region begins, in a memory whose regions 1 and 3 of 8 bytes are live, 2 is not.
var notFirst = []uint64{
	0,
	1,
	at(1, 1),
	at(1, 7),
	at(1, 8),
	at(1, 1<<32-1),
	at(2, 0),
	at(3, 4),
	at(4, 0),
	math.MaxUint64,
	math.MaxUint64 - math.MaxUint32,
}

// three makes a memory of three regions of 8 bytes, of which the second is freed.
func three(t *testing.T) *kmem.Mem {
	t.Helper()
	m := kmem.New()
	for _, s := range []string{"11111111", "22222222", "33333333"} {
		put(t, m, alloc(t, m, 8, both), s)
	}
	wantErr(t, "Free", m.Free(at(2, 0)), api.OK)
	return m
}

// 2.2: Free and Retire take first addresses of live regions alone, and change nothing at others.
func TestFreeAndRetireArguments(t *testing.T) {
	for _, addr := range notFirst {
		m := three(t)
		if e := m.Free(addr); e != api.ErrArg {
			t.Errorf("Free(%#x): error %d", addr, e)
		}
		if e := m.Retire(addr); e != api.ErrArg {
			t.Errorf("Retire(%#x): error %d", addr, e)
		}
		m.Grace()
		wantRegions(t, m, api.Region{Number: 1, Perm: both, Bytes: "11111111"}, api.Region{Number: 3, Perm: both, Bytes: "33333333"})
	}
	m := kmem.New()
	wantErr(t, "Free, of an empty memory", m.Free(at(1, 0)), api.ErrArg)
	wantErr(t, "Retire, of an empty memory", m.Retire(at(1, 0)), api.ErrArg)
	m.Grace()
	wantRegions(t, m)
}

// 2.2: a freed region is live no more, at once; the others are.
func TestFree(t *testing.T) {
	m := three(t)
	wantErr(t, "Free", m.Free(at(1, 0)), api.OK)
	wantNumbers(t, m, 3)
	_, e := m.Read(at(1, 0), 1)
	wantErr(t, "Read of a freed one", e, api.FaultFreed)
	wantErr(t, "Free, twice", m.Free(at(1, 0)), api.ErrArg)
	wantErr(t, "Retire of a freed one", m.Retire(at(1, 0)), api.ErrArg)
	n, e := m.Read(at(3, 0), 1)
	if n != '3' || e != api.OK {
		t.Errorf("Read of another one: %d, error %d", n, e)
	}
}

// 2.2: a retired region lives until Grace, and no longer.
func TestRetire(t *testing.T) {
	m := three(t)
	wantErr(t, "Retire", m.Retire(at(3, 0)), api.OK)
	wantErr(t, "Retire, twice", m.Retire(at(3, 0)), api.ErrArg)
	wantErr(t, "Write to a retired one", m.Write(at(3, 7), 1, 'x'), api.OK)
	wantRegions(t, m, api.Region{Number: 1, Perm: both, Bytes: "11111111"}, api.Region{Number: 3, Perm: both, Bytes: "3333333x"})
	if n, e := m.Size(at(3, 1)); n != 8 || e != api.OK {
		t.Errorf("Size of a retired one: %d, error %d", n, e)
	}
	m.Grace()
	wantNumbers(t, m, 1)
	_, e := m.Read(at(3, 0), 8)
	wantErr(t, "Read behind Grace", e, api.FaultFreed)
	wantErr(t, "Free behind Grace", m.Free(at(3, 0)), api.ErrArg)
	wantErr(t, "Retire behind Grace", m.Retire(at(3, 0)), api.ErrArg)
}

// 2.2: a retired region may be freed ahead of Grace, which then has the others alone.
func TestFreeOfRetired(t *testing.T) {
	m := kmem.New()
	for range 5 {
		alloc(t, m, 8, both)
	}
	for _, number := range []int{4, 2, 5} {
		wantErr(t, "Retire", m.Retire(at(number, 0)), api.OK)
	}
	wantErr(t, "Free of a retired one", m.Free(at(2, 0)), api.OK)
	wantNumbers(t, m, 1, 3, 4, 5)
	wantErr(t, "Free of a retired one, twice", m.Free(at(2, 0)), api.ErrArg)
	wantErr(t, "Retire of one that was retired and freed", m.Retire(at(2, 0)), api.ErrArg)
	m.Grace()
	wantNumbers(t, m, 1, 3)
}

// 2.2: Grace frees all that were retired, whatever their order, once; what is retired later waits for the next one.
func TestGrace(t *testing.T) {
	m := kmem.New()
	for range 6 {
		alloc(t, m, 1, both)
	}
	m.Grace()
	wantNumbers(t, m, 1, 2, 3, 4, 5, 6)
	for _, number := range []int{5, 1, 3} {
		m.Retire(at(number, 0))
	}
	wantNumbers(t, m, 1, 2, 3, 4, 5, 6)
	m.Grace()
	wantNumbers(t, m, 2, 4, 6)
	m.Retire(at(4, 0))
	wantNumbers(t, m, 2, 4, 6)
	m.Grace()
	m.Grace()
	wantNumbers(t, m, 2, 6)
}
