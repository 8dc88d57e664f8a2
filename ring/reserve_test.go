package ring_test

import (
	"math"
	"testing"

	"portcullis/api"
	"portcullis/kmem"
)

// badSizes is sizes that no record of a ring of most bytes has.
func badSizes(most int) []int {
	return []int{
		0, -1, -8, -most, math.MinInt, math.MinInt + 1, math.MinInt + 8,
		most/2 + 1, most/2 + 8, most - 8, most, most + 1, 1 << 20, 1<<20 + 1, 1<<32 + 1, 1<<62 + 8, math.MaxInt - 7, math.MaxInt,
	}
}

// 12.2: sizes from 1 to half of the ring are taken, and no others.
func TestReserveSizes(t *testing.T) {
	for _, most := range []int{64, 128, 1024, 65536} {
		for _, size := range []int{1, 2, 7, 8, 9, most/2 - 1, most / 2} {
			x, m := build(t, most)
			wantReserve(t, x, size, at(1), api.OK)
			wantUsed(t, x, takes(size))
			wantRegions(t, m, live(1, zeros(size)))
		}
		x, m := build(t, most)
		for _, size := range badSizes(most) {
			wantReserve(t, x, size, 0, api.ErrArg)
		}
		wantUsed(t, x, 0)
		wantDrain(t, x)
		wantRegions(t, m)
	}
	for size := -70; size <= 140; size++ {
		x, _ := build(t, 64)
		if a, e := x.Reserve(size); (e == api.OK) != (size >= 1 && size <= 32) || (a == at(1)) != (e == api.OK) {
			t.Errorf("Reserve(%d): %#x, error %d", size, a, e)
		}
	}
}

// 12.2: where the room left is just enough, and where it is one step short of it.
func TestReserveRoom(t *testing.T) {
	for _, c := range []struct {
		sizes []int // of records that are there, in a ring of 64 bytes
		size  int
		want  api.Errno
	}{
		{[]int{32}, 16, api.OK}, // 40 and 24
		{[]int{32}, 17, api.ErrFull},
		{[]int{32}, 32, api.ErrFull},
		{[]int{20}, 24, api.OK}, // 32 and 32
		{[]int{20}, 25, api.ErrFull},
		{[]int{20, 9}, 1, api.ErrFull}, // 56
		{[]int{20, 8}, 8, api.OK},      // 48 and 16
		{[]int{20, 8}, 9, api.ErrFull},
		{[]int{1, 1, 1}, 1, api.OK}, // 48 and 16
		{[]int{1, 1, 1}, 8, api.OK},
		{[]int{1, 1, 1}, 9, api.ErrFull},
		{[]int{1, 1, 1, 1}, 1, api.ErrFull}, // 64
		{[]int{24, 24}, 1, api.ErrFull},
		{[]int{32, 9}, 1, api.ErrFull},
	} {
		x, m := with(t, 64, c.sizes...)
		used, before := x.Used(), m.Regions()
		if c.want != api.OK {
			wantReserve(t, x, c.size, 0, c.want)
			wantOutput(t, x, row(0, c.size), c.want)
			wantUsed(t, x, used)
			wantRegions(t, m, before...)
			continue
		}
		wantReserve(t, x, c.size, at(len(c.sizes)+1), api.OK)
		wantUsed(t, x, used+takes(c.size))
	}
}

// 12.2: of each size of the records that are there, the greatest one that there is room for, and one step more.
func TestReserveLastRoom(t *testing.T) {
	for size := 1; size <= 64; size++ {
		x, _ := with(t, 128, size)
		left := 128 - takes(size)
		if left-8 < 64 {
			wantReserve(t, x, left-7, 0, api.ErrFull)
		}
		wantReserve(t, x, min(left-8, 64), at(2), api.OK)
		wantUsed(t, x, 128-left+takes(min(left-8, 64)))
	}
}

// 12.2: there is room again for what was taken, not for what is only submitted or discarded.
func TestReserveRoomAgain(t *testing.T) {
	x, _ := with(t, 64, 8, 8, 8, 8)
	wantReserve(t, x, 1, 0, api.ErrFull)
	wantSubmit(t, x, at(2), api.OK)
	wantDiscard(t, x, at(1), api.OK)
	wantReserve(t, x, 1, 0, api.ErrFull)
	wantDrain(t, x, zeros(8))
	wantReserve(t, x, 25, 0, api.ErrFull)
	wantReserve(t, x, 24, at(5), api.OK)
	wantUsed(t, x, 64)
	wantReserve(t, x, 1, 0, api.ErrFull)
}

// 12.2: ErrArg comes ahead of ErrFull, this ahead of Alloc's error, which uses up what Fail asked for.
func TestReserveErrors(t *testing.T) {
	x, m := with(t, 64, 24, 24)
	wantErr(t, "Fail", m.Fail(1), api.OK)
	for _, size := range badSizes(64) {
		wantReserve(t, x, size, 0, api.ErrArg)
	}
	for size := 1; size <= 32; size++ {
		wantReserve(t, x, size, 0, api.ErrFull)
		wantOutput(t, x, row(0, size), api.ErrFull)
	}
	wantOutput(t, x, "", api.ErrArg)
	wantOutput(t, x, row(0, 33), api.ErrArg)
	_, e := m.Alloc(1, both) // none of them asked for a region
	wantErr(t, "Alloc", e, api.ErrMem)
	wantUsed(t, x, 64)

	x, m = build(t, 64)
	wantErr(t, "Fail", m.Fail(1), api.OK)
	wantReserve(t, x, 33, 0, api.ErrArg)
	wantReserve(t, x, 0, 0, api.ErrArg)
	wantReserve(t, x, 32, 0, api.ErrMem)
	wantReserve(t, x, 32, at(1), api.OK)
}

// 12.2: a refused Alloc leaves the ring as it was, and its record uses nothing.
func TestReserveRefused(t *testing.T) {
	x, m := with(t, 64, 8)
	wantOutput(t, x, "out", api.OK)
	for range 10 {
		wantErr(t, "Fail", m.Fail(1), api.OK)
		wantReserve(t, x, 16, 0, api.ErrMem)
		wantErr(t, "Fail", m.Fail(1), api.OK)
		wantOutput(t, x, "lost", api.ErrMem)
		wantUsed(t, x, 32)
		wantDrain(t, x)
	}
	wantNoRecord(t, x, at(3), 0)
	wantRegions(t, m, live(1, zeros(8)), live(2, "out"))
	wantReserve(t, x, 24, at(3), api.OK) // all of the room is there still
	wantUsed(t, x, 64)
	wantSubmit(t, x, at(1), api.OK)
	wantSubmit(t, x, at(3), api.OK)
	wantDrain(t, x, zeros(8), "out", zeros(24))
}

// 12.2: a memory with as many live regions as may be refuses; retired ones are live until Grace.
func TestReserveMostRegions(t *testing.T) {
	x, m := build(t, 65536)
	for i := range api.MaxRegions {
		wantReserve(t, x, 1, at(i+1), api.OK)
	}
	wantUsed(t, x, 65536)
	wantReserve(t, x, 1, 0, api.ErrFull) // ahead of ErrMem
	wantDiscard(t, x, at(1), api.OK)
	wantDrain(t, x)
	wantUsed(t, x, 65520)
	wantReserve(t, x, 1, 0, api.ErrMem)
	wantOutput(t, x, "a", api.ErrMem)
	m.Grace()
	wantReserve(t, x, 1, at(api.MaxRegions+1), api.OK)
	wantUsed(t, x, 65536)
}

// 12.2: a record's region has its size, bytes 0, may be read and written, and is its own.
func TestReserveRegion(t *testing.T) {
	x, m := with(t, 128, 1, 9, 20, 8)
	wantRegions(t, m, live(1, zeros(1)), live(2, zeros(9)), live(3, zeros(20)), live(4, zeros(8)))
	wantErr(t, "Write", m.Write(at(2)+1, 8, math.MaxUint64), api.OK)
	wantErr(t, "Write", m.Write(at(3)+16, 4, 0x64636261), api.OK)
	wantErr(t, "Write, behind the record", m.Write(at(2)+2, 8, 1), api.FaultBound)
	wantErr(t, "Write, behind the record", m.Write(at(1)+1, 1, 1), api.FaultBound) // the ring's step is not the region's
	if n, e := m.Read(at(2), 2); n != 0xff00 || e != api.OK {
		t.Errorf("Read: %#x, error %d", n, e)
	}
	wantRegions(t, m, live(1, zeros(1)), live(2, "\x00"+filled(0xff, 8)), live(3, zeros(16)+"abcd"), live(4, zeros(8)))
	for n := 1; n <= 4; n++ {
		wantSubmit(t, x, at(n), api.OK)
	}
	wantDrain(t, x, zeros(1), "\x00"+filled(0xff, 8), zeros(16)+"abcd", zeros(8))
}

// 12.2: a record's bytes are 0 at first, whatever stood in the ring there, round and round.
func TestReserveIsNew(t *testing.T) {
	x, m := build(t, 64)
	for n := 1; n < 60; n += 2 {
		wantOutput(t, x, filled(0xff, 1+n*5%32), api.OK)
		wantDrain(t, x, filled(0xff, 1+n*5%32))
		size := 1 + n*7%32
		wantReserve(t, x, size, at(n+1), api.OK)
		wantBytes(t, m, at(n+1), zeros(size))
		wantSubmit(t, x, at(n+1), api.OK)
		wantDrain(t, x, zeros(size))
		m.Grace()
	}
}

// 12.2: a new record stands behind all others: the regions' numbers don't tell the order, the reserving does.
func TestReserveBehind(t *testing.T) {
	m := kmem.New()
	x := buildIn(t, m, 128)
	wantReserve(t, x, 1, at(1), api.OK)
	m.Alloc(1, both)
	wantOutput(t, x, "b", api.OK)
	wantReserve(t, x, 1, at(4), api.OK)
	wantOutput(t, x, "d", api.OK)
	put(t, m, at(4), "c")
	put(t, m, at(1), "a")
	wantSubmit(t, x, at(4), api.OK)
	wantSubmit(t, x, at(1), api.OK)
	wantDrain(t, x, "a", "b", "c", "d")
}
