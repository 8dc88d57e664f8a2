package ring_test

import (
	"strings"
	"testing"

	"portcullis/api"
)

// 12.2: Output of one byte to half of the ring, and of none, of one more and of far more.
func TestOutputSizes(t *testing.T) {
	for _, most := range []int{64, 128, 1024, 65536} {
		for _, size := range []int{1, 7, 8, 9, most/2 - 1, most / 2} {
			x, m := build(t, most)
			wantOutput(t, x, row(9, size), api.OK)
			wantUsed(t, x, takes(size))
			wantRegions(t, m, live(1, row(9, size)))
			wantDrain(t, x, row(9, size))
			wantUsed(t, x, 0)
		}
		x, m := build(t, most)
		for _, size := range []int{0, most/2 + 1, most - 8, most, 2 * most, api.MaxRegion, api.MaxRegion + 1} {
			wantOutput(t, x, row(9, size), api.ErrArg)
			wantUsed(t, x, 0)
			wantDrain(t, x)
		}
		wantRegions(t, m)
	}
}

// 12.2: where there is no room Output is refused, and what waits stays.
func TestOutputFull(t *testing.T) {
	x, m := build(t, 64)
	wantOutput(t, x, row(1, 32), api.OK)
	wantOutput(t, x, row(2, 17), api.ErrFull)
	wantOutput(t, x, row(2, 16), api.OK)
	wantUsed(t, x, 64)
	for size := 1; size <= 32; size++ {
		wantOutput(t, x, row(3, size), api.ErrFull)
	}
	wantUsed(t, x, 64)
	wantRegions(t, m, live(1, row(1, 32)), live(2, row(2, 16)))
	wantDrain(t, x, row(1, 32), row(2, 16))
	wantOutput(t, x, row(3, 32), api.OK)
	wantDrain(t, x, row(3, 32))
}

// 12.2: the record that Output makes is submitted already, and its region retired: read until Grace.
func TestOutputRetires(t *testing.T) {
	x, m := build(t, 64)
	wantOutput(t, x, "abc", api.OK)
	wantNoRecord(t, x, at(1))
	wantErr(t, "Retire, a second time", m.Retire(at(1)), api.ErrArg)
	wantBytes(t, m, at(1), "abc")
	put(t, m, at(1), "xyz")
	wantRegions(t, m, live(1, "xyz"))
	m.Grace()
	wantRegions(t, m)
	wantFault(t, m, at(1), api.FaultFreed)
	wantUsed(t, x, 16)
	wantDrain(t, x, "abc")
	wantNoRecord(t, x, at(1))
}

// 12.2: what is put out stands behind all others, the held ones, too.
func TestOutputBehind(t *testing.T) {
	x, _ := build(t, 128)
	wantOutput(t, x, "one", api.OK)
	wantReserve(t, x, 1, at(2), api.OK)
	wantOutput(t, x, "two", api.OK)
	wantDrain(t, x, "one")
	wantOutput(t, x, "three", api.OK)
	wantDrain(t, x)
	wantUsed(t, x, 48)
	wantDiscard(t, x, at(2), api.OK)
	wantDrain(t, x, "two", "three")
}

// 12.2: the text that is put out may be a piece of another one, of which nothing more is told.
func TestOutputOfPiece(t *testing.T) {
	long := strings.Repeat("0123456789", 10)
	x, m := build(t, 128)
	wantOutput(t, x, long[3:8], api.OK)
	wantOutput(t, x, long[41:42], api.OK)
	wantRegions(t, m, live(1, "34567"), live(2, "1"))
	wantDrain(t, x, "34567", "1")
}
