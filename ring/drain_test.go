package ring_test

import (
	"slices"
	"testing"

	"portcullis/api"
)

// 12.2: of a ring without records nothing is told, however often it is asked.
func TestDrainOfEmpty(t *testing.T) {
	x, m := build(t, 64)
	for range 3 {
		wantDrain(t, x)
		wantUsed(t, x, 0)
	}
	wantOutput(t, x, "a", api.OK)
	wantDrain(t, x, "a")
	for range 3 {
		wantDrain(t, x)
		wantUsed(t, x, 0)
	}
	wantRegions(t, m, live(1, "a"))
}

// 12.2: while the oldest record is held nothing is told and nothing taken; what stands ahead of a held one is.
func TestDrainHeld(t *testing.T) {
	x, m := with(t, 128, 20)
	wantOutput(t, x, "a", api.OK)
	wantOutput(t, x, "b", api.OK)
	for range 3 {
		wantDrain(t, x)
		wantUsed(t, x, 64)
	}
	wantReserve(t, x, 9, at(4), api.OK)
	wantOutput(t, x, "c", api.OK)
	wantUsed(t, x, 104)
	put(t, m, at(1), row(4, 20))
	wantSubmit(t, x, at(1), api.OK)
	wantUsed(t, x, 104)
	wantDrain(t, x, row(4, 20), "a", "b")
	wantUsed(t, x, 40)
	wantDrain(t, x)
	wantUsed(t, x, 40)
	wantDiscard(t, x, at(4), api.OK)
	wantUsed(t, x, 40)
	wantDrain(t, x, "c")
	wantUsed(t, x, 0)
}

// 12.2: a discarded record is taken without a word, also where it is the only one, and the held one behind it stays.
func TestDrainDiscarded(t *testing.T) {
	x, _ := with(t, 64, 8, 8, 8)
	wantDiscard(t, x, at(1), api.OK)
	wantUsed(t, x, 48)
	wantDrain(t, x)
	wantUsed(t, x, 32)
	wantDrain(t, x)
	wantUsed(t, x, 32)
	wantDiscard(t, x, at(3), api.OK)
	wantDrain(t, x)
	wantUsed(t, x, 32)
	wantSubmit(t, x, at(2), api.OK)
	wantDrain(t, x, zeros(8))
	wantUsed(t, x, 0)
}

// 12.2: Drain touches no region: what was retired is read still, what is held may be written still.
func TestDrainLeavesMemory(t *testing.T) {
	x, m := with(t, 128, 2, 2, 2)
	put(t, m, at(1), "ab")
	wantSubmit(t, x, at(1), api.OK)
	wantDiscard(t, x, at(2), api.OK)
	before := m.Regions()
	wantDrain(t, x, "ab")
	wantRegions(t, m, before...)
	put(t, m, at(3), "cd")
	wantSubmit(t, x, at(3), api.OK)
	wantDrain(t, x, "cd")
}

// 12.2: what is told has the bytes in two pieces that lie over the ring's end, at each place and of each size.
func TestDrainOverTheEnd(t *testing.T) {
	for shift := 1; shift <= 32; shift++ {
		for size := 1; size <= 32; size++ {
			x, m := build(t, 64)
			wantOutput(t, x, filled('-', shift), api.OK)
			wantDrain(t, x, filled('-', shift))
			wantReserve(t, x, size, at(2), api.OK)
			put(t, m, at(2), row(5, size))
			rest := 64 - takes(size) - 8
			if rest > 32 {
				rest = 32
			}
			wantOutput(t, x, row(101, rest), api.OK)
			wantUsed(t, x, takes(size)+takes(rest))
			wantSubmit(t, x, at(2), api.OK)
			wantDrain(t, x, row(5, size), row(101, rest))
			wantUsed(t, x, 0)
		}
	}
}

// 12.2: the greatest ring and the greatest records of it.
func TestDrainMost(t *testing.T) {
	x, m := build(t, 65536)
	for n := range 20 {
		wantOutput(t, x, row(byte(n), 32768), api.OK)
		wantOutput(t, x, row(byte(n+1), 32752), api.OK)
		wantUsed(t, x, 65536)
		wantOutput(t, x, "a", api.ErrFull)
		wantDrain(t, x, row(byte(n), 32768), row(byte(n+1), 32752))
		wantOutput(t, x, row(byte(n), 1+n*1111), api.OK)
		wantDrain(t, x, row(byte(n), 1+n*1111))
		m.Grace()
	}
}

// R4: what was told stays, whatever is told later, and an answer that is changed changes nothing.
func TestDrainAnswersAreNew(t *testing.T) {
	x, _ := build(t, 64)
	wantOutput(t, x, "first one", api.OK)
	wantOutput(t, x, "second", api.OK)
	l := x.Drain()
	for range 5 {
		wantOutput(t, x, filled('x', 32), api.OK)
		wantOutput(t, x, filled('y', 8), api.OK)
		wantDrain(t, x, filled('x', 32), filled('y', 8))
	}
	if !slices.Equal(l, []string{"first one", "second"}) {
		t.Errorf("what was told became %q", l)
	}
	wantOutput(t, x, "third", api.OK)
	l = append(l[:0], "a", "b")
	wantDrain(t, x, "third")
	if l[0] != "a" || l[1] != "b" {
		t.Errorf("the list became %q", l)
	}
}

// 12: the chapter's examples.
func TestExamples(t *testing.T) {
	x, _ := build(t, 64)
	wantReserve(t, x, 20, at(1), api.OK)
	wantUsed(t, x, 32)
	wantOutput(t, x, "123456789", api.OK)
	wantUsed(t, x, 56)
	wantOutput(t, x, "1", api.ErrFull)
	wantDrain(t, x)
	wantSubmit(t, x, at(1), api.OK)
	wantDrain(t, x, zeros(20), "123456789")
}
