package ring_test

import (
	"math"
	"testing"

	"portcullis/api"
	"portcullis/ring"
)

// wantGone looks whether a ring is without records, and takes none.
func wantGone(t *testing.T, x *ring.Map) {
	t.Helper()
	for _, size := range []int{-1, 0, 1, 8, 32, 33, math.MinInt, math.MaxInt} {
		wantReserve(t, x, size, 0, api.ErrArg)
	}
	for _, s := range []string{"", "a", row(0, 32), row(0, 33)} {
		wantOutput(t, x, s, api.ErrArg)
	}
	wantNoRecord(t, x, 0, at(1), at(2), at(3), at(4), at(5), math.MaxUint64)
	wantDrain(t, x)
	wantUsed(t, x, 0)
	wantErr(t, "Free", x.Free(), api.ErrArg)
	wantDrain(t, x)
	wantUsed(t, x, 0)
}

// 12.2: the regions of held records are freed at once, those that were retired are read until Grace, and there are no records.
func TestFree(t *testing.T) {
	x, m := with(t, 128, 8, 8, 8, 8)
	wantOutput(t, x, "out", api.OK)
	for n := 1; n <= 4; n++ {
		put(t, m, at(n), row(byte(n), 8))
	}
	wantSubmit(t, x, at(2), api.OK)
	wantDiscard(t, x, at(3), api.OK)
	wantErr(t, "Free", x.Free(), api.OK)
	wantFault(t, m, at(1), api.FaultFreed)
	wantFault(t, m, at(4), api.FaultFreed)
	left := []api.Region{live(2, row(2, 8)), live(3, row(3, 8)), live(5, "out")}
	wantRegions(t, m, left...)
	wantGone(t, x)
	wantRegions(t, m, left...)
	m.Grace()
	wantRegions(t, m)
	wantGone(t, x)
}

// 12.2: what was submitted and not taken is told no more.
func TestFreeTellsNothing(t *testing.T) {
	x, m := build(t, 64)
	wantOutput(t, x, "a", api.OK)
	wantOutput(t, x, "b", api.OK)
	wantUsed(t, x, 32)
	wantErr(t, "Free", x.Free(), api.OK)
	wantGone(t, x)
	wantRegions(t, m, live(1, "a"), live(2, "b"))
}

// 12.2: a ring without records is freed, too, once: a new one and one whose records were taken.
func TestFreeOfEmpty(t *testing.T) {
	x, m := build(t, 64)
	wantErr(t, "Free", x.Free(), api.OK)
	wantGone(t, x)

	x = buildIn(t, m, 64)
	wantReserve(t, x, 1, at(1), api.OK)
	wantSubmit(t, x, at(1), api.OK)
	wantDrain(t, x, zeros(1))
	wantErr(t, "Free", x.Free(), api.OK)
	wantGone(t, x)
	wantRegions(t, m, live(1, zeros(1)))
	m.Grace()
	wantRegions(t, m)
}

// 12.2: regions of others, and another ring's records, are left alone.
func TestFreeLeavesOthers(t *testing.T) {
	x, m := with(t, 64, 8)
	other := buildIn(t, m, 64)
	wantReserve(t, other, 8, at(2), api.OK)
	m.Alloc(1, api.PermRead)
	wantErr(t, "Free", x.Free(), api.OK)
	rest := []api.Region{live(2, zeros(8)), {Number: 3, Perm: api.PermRead, Bytes: "\x00"}}
	wantRegions(t, m, rest...)
	wantGone(t, x)
	m.Grace()
	wantRegions(t, m, rest...)
	wantUsed(t, other, 16)
	wantSubmit(t, other, at(2), api.OK)
	wantDrain(t, other, zeros(8))
}

// 12.2: as many held records as may be are all freed.
func TestFreeMany(t *testing.T) {
	x, m := build(t, 65536)
	for n := 1; n <= api.MaxRegions; n++ {
		wantReserve(t, x, 8, at(n), api.OK)
	}
	wantErr(t, "Free", x.Free(), api.OK)
	wantRegions(t, m)
	wantGone(t, x)
}

// 12.2: a record whose region somebody else has freed or retired hinders no Free.
func TestFreeOfFreed(t *testing.T) {
	x, m := with(t, 64, 8, 8, 8)
	m.Free(at(1))
	m.Retire(at(3))
	wantErr(t, "Free", x.Free(), api.OK)
	wantRegions(t, m)
	wantGone(t, x)
}

// 12.2: on nil Drain and Used tell nothing, and all else is ErrArg.
func TestNil(t *testing.T) {
	wantGone(t, nil)
}

// R1: a ring that no call gave is as one that is freed.
func TestZero(t *testing.T) {
	wantGone(t, &ring.Map{})
}
