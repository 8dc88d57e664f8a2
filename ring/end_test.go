package ring_test

import (
	"math"
	"testing"

	"portcullis/api"
	"portcullis/kmem"
	"portcullis/ring"
)

// 12.2: only the first address of a held record is one to Submit or Discard; others change nothing.
func TestEndOfNone(t *testing.T) {
	x, m := with(t, 128, 20, 8)
	m.Alloc(8, both)
	before := m.Regions()
	wantNoRecord(t, x,
		0, 1, region-1, at(1)+1, at(1)+4, at(1)+8, at(1)+19, at(1)+20, at(1)+32, at(2)-1, at(2)+1, at(2)+7, at(2)+8,
		at(3), at(4), at(5), 2, 8, 16, 32, 40, math.MaxUint64, 1<<63, at(1)|1<<63, math.MaxUint64-region+1,
	)
	wantUsed(t, x, 48)
	wantDrain(t, x)
	m.Grace() // nothing was retired
	wantRegions(t, m, before...)
	wantSubmit(t, x, at(1), api.OK)
	wantDiscard(t, x, at(2), api.OK)
	wantDrain(t, x, zeros(20))

	x, _ = build(t, 64)
	wantNoRecord(t, x, 0, at(1), math.MaxUint64)
}

// 12.2: another ring's record is none of this one's, in the same memory and in another one.
func TestEndOfAnother(t *testing.T) {
	m := kmem.New()
	a, b := buildIn(t, m, 64), buildIn(t, m, 128)
	wantReserve(t, a, 8, at(1), api.OK)
	wantReserve(t, b, 8, at(2), api.OK)
	wantNoRecord(t, a, at(2))
	wantNoRecord(t, b, at(1))
	m.Grace()
	wantRegions(t, m, live(1, zeros(8)), live(2, zeros(8)))
	wantSubmit(t, a, at(1), api.OK)
	wantDiscard(t, b, at(2), api.OK)
	wantDrain(t, a, zeros(8))
	wantDrain(t, b)

	x, _ := with(t, 64, 8)
	other, _ := with(t, 64, 8, 8)
	wantNoRecord(t, x, at(2))
	wantSubmit(t, x, at(1), api.OK)
	wantDiscard(t, other, at(1), api.OK) // the same number, of another memory
	wantSubmit(t, other, at(2), api.OK)
	wantDrain(t, other, zeros(8))
}

// 12.2: a record is submitted or discarded once: not again while it waits, nor when it was taken, nor behind Grace.
func TestEndOnce(t *testing.T) {
	for name, end := range ends {
		x, m := with(t, 64, 8, 8)
		wantErr(t, name, end(x, at(2)), api.OK)
		wantNoRecord(t, x, at(2))
		wantDrain(t, x) // the first one is held
		wantNoRecord(t, x, at(2))
		wantErr(t, name, end(x, at(1)), api.OK)
		wantNoRecord(t, x, at(1), at(2))
		x.Drain()
		wantUsed(t, x, 0)
		wantNoRecord(t, x, at(1), at(2))
		wantRegions(t, m, live(1, zeros(8)), live(2, zeros(8)))
		m.Grace()
		wantNoRecord(t, x, at(1), at(2))
		wantReserve(t, x, 8, at(3), api.OK)
		wantNoRecord(t, x, at(1), at(2))
		wantErr(t, name, end(x, at(3)), api.OK)
	}
}

// ends is both calls that end a record.
var ends = map[string]func(x *ring.Map, addr uint64) api.Errno{
	"Submit":  func(x *ring.Map, addr uint64) api.Errno { return x.Submit(addr) },
	"Discard": func(x *ring.Map, addr uint64) api.Errno { return x.Discard(addr) },
}

// 12.2: by Submit and by Discard a region is retired: read and written until Grace, whether its record is taken ahead of it or not.
func TestEndRetires(t *testing.T) {
	for name, end := range ends {
		for _, drained := range []bool{false, true} {
			x, m := with(t, 64, 9, 8)
			put(t, m, at(1), "ninebytes")
			wantErr(t, name, end(x, at(1)), api.OK)
			if drained {
				x.Drain()
			}
			wantBytes(t, m, at(1), "ninebytes")
			wantErr(t, "Write", m.Write(at(1)+8, 1, 'S'), api.OK)
			wantRegions(t, m, live(1, "ninebyteS"), live(2, zeros(8)))
			wantErr(t, "Retire, a second time", m.Retire(at(1)), api.ErrArg)
			m.Grace()
			wantFault(t, m, at(1), api.FaultFreed)
			wantRegions(t, m, live(2, zeros(8))) // the one that is held is not retired
		}
	}
}

// 12.2: what is told are the bytes as they were when they were submitted, whatever is written there afterwards, and when their region is freed.
func TestSubmitTellsThen(t *testing.T) {
	for _, size := range []int{1, 7, 8, 9, 20, 32} {
		x, m := with(t, 64, size)
		put(t, m, at(1), row(3, size))
		put(t, m, at(1), row(1, size)) // what was written last
		wantSubmit(t, x, at(1), api.OK)
		put(t, m, at(1), filled('x', size))
		wantErr(t, "Write", m.Write(at(1), 1, 'y'), api.OK)
		m.Grace()
		m.Alloc(size, both)
		m.Put(at(2), filled('z', size))
		wantDrain(t, x, row(1, size))
	}
}

// 12.2: all of a record's bytes are told, the 0s at its ends, too.
func TestSubmitBytes(t *testing.T) {
	for _, s := range []string{"\x00", "\xff", "\x00a\x00", "a\x00\x00\x00\x00\x00\x00\x00", "\x80\x81\xfe\xff\n", row(0, 32), "\x00\x00\x00\x00\x00\x00\x00\x00\x01"} {
		x, m := with(t, 64, len(s))
		put(t, m, at(1), s)
		wantSubmit(t, x, at(1), api.OK)
		wantDrain(t, x, s)
	}
}

// 12.2: of what was discarded nothing is told, whatever it held; it waits for its turn as others do.
func TestDiscardTellsNothing(t *testing.T) {
	x, m := with(t, 128, 8, 8, 8)
	put(t, m, at(1), "lostlost")
	wantDiscard(t, x, at(3), api.OK)
	wantDiscard(t, x, at(1), api.OK)
	wantUsed(t, x, 48)
	wantSubmit(t, x, at(2), api.OK)
	wantUsed(t, x, 48)
	wantDrain(t, x, zeros(8))
	wantUsed(t, x, 0)
}

// 12.2: records may be ended in any order: they are told in the order in which they were reserved.
func TestEndOrders(t *testing.T) {
	texts := []string{"", "a", "bbbbbbbbb", "cccc", "dddddddddddddddd"}
	for _, order := range [][]int{{1, 2, 3, 4}, {4, 3, 2, 1}, {2, 4, 1, 3}, {3, 1, 4, 2}, {2, 3, 4, 1}, {4, 1, 2, 3}} {
		for discards := range 16 { // a bit for each record
			x, m := with(t, 128, 1, 9, 4, 16)
			var want []string
			for n := 1; n <= 4; n++ {
				put(t, m, at(n), texts[n])
				if discards>>(n-1)&1 == 0 {
					want = append(want, texts[n])
				}
			}
			for _, n := range order {
				if discards>>(n-1)&1 == 0 {
					wantSubmit(t, x, at(n), api.OK)
				} else {
					wantDiscard(t, x, at(n), api.OK)
				}
				wantUsed(t, x, 80)
			}
			wantDrain(t, x, want...)
			wantUsed(t, x, 0)
		}
	}
}

// 12.2: a region that somebody else has freed has no bytes: Submit tells the memory's fault and changes nothing, and Discard is well.
func TestSubmitOfFreed(t *testing.T) {
	x, m := with(t, 64, 8, 8)
	wantErr(t, "Free", m.Free(at(1)), api.OK)
	for range 3 {
		wantSubmit(t, x, at(1), api.FaultFreed)
		wantUsed(t, x, 32)
		wantDrain(t, x)
	}
	wantSubmit(t, x, at(2), api.OK)
	wantDrain(t, x)
	wantDiscard(t, x, at(1), api.OK)
	wantNoRecord(t, x, at(1))
	wantDrain(t, x, zeros(8))

	x, m = with(t, 64, 8) // one that somebody else has retired is live still
	put(t, m, at(1), "eightbyt")
	wantErr(t, "Retire", m.Retire(at(1)), api.OK)
	wantSubmit(t, x, at(1), api.OK)
	m.Grace()
	wantDrain(t, x, "eightbyt")
}
