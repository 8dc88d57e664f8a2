package alu_test

import (
	"math"
	"testing"

	"portcullis/alu"
	"portcullis/api"
)

// 1.2: Extend at each number of bits, wide and not.
func TestExtend(t *testing.T) {
	for _, c := range []struct {
		a    uint64
		bits int
		wide bool
		want uint64
	}{
		{127, 8, true, 127},
		{128, 8, true, minus - 128},
		{255, 8, true, minus - 1},
		{upper + 0x7F00, 8, true, 0},
		{upper + 0x0180, 8, true, minus - 128},
		{32767, 16, true, 32767},
		{32768, 16, true, minus - 32768},
		{upper + 0x17FFF, 16, true, 32767},
		{0xFFFF, 16, true, minus - 1},
		{least32 - 1, 32, true, least32 - 1},
		{least32, 32, true, minus - least32},
		{minus32 - 1, 32, true, minus - 1},
		{upper + 5, 32, true, 5},
		{least + least32, 32, true, minus - least32},
		{127, 8, false, 127},
		{128, 8, false, minus32 - 128},
		{upper + 0x7F00, 8, false, 0},
		{upper + 0x01FF, 8, false, minus32 - 1},
		{32767, 16, false, 32767},
		{32768, 16, false, minus32 - 32768},
		{upper + 0x18000, 16, false, minus32 - 32768},
	} {
		if n, e := alu.Extend(c.a, c.bits, c.wide); n != c.want || e != api.OK {
			t.Errorf("Extend(%#x, %d, %v): %#x, error %d; want %#x", c.a, c.bits, c.wide, n, e, c.want)
		}
	}
}

// 1.2: Swap turns the bytes of the lowest bits alone.
func TestSwap(t *testing.T) {
	for _, c := range []struct {
		a    uint64
		bits int
		want uint64
	}{
		{258, 16, 513},
		{0x1122334455667788, 16, 0x8877},
		{0x1122334455667788, 32, 0x88776655},
		{0x1122334455667788, 64, 0x8877665544332211},
		{0xFF, 16, 0xFF00},
		{0xFF, 32, 0xFF000000},
		{0xFF, 64, 0xFF << 56},
		{upper, 32, 0},
		{0, 64, 0},
	} {
		if n, e := alu.Swap(c.a, c.bits); n != c.want || e != api.OK {
			t.Errorf("Swap(%#x, %d): %#x, error %d; want %#x", c.a, c.bits, n, e, c.want)
		}
	}
}

// 1.2: Cut keeps the lowest bits.
func TestCut(t *testing.T) {
	for _, c := range []struct {
		a    uint64
		bits int
		want uint64
	}{
		{0x1122334455667788, 16, 0x7788},
		{0x1122334455667788, 32, 0x55667788},
		{0x1122334455667788, 64, 0x1122334455667788},
		{minus - 1, 16, 0xFFFF},
		{minus - 1, 32, minus32 - 1},
		{minus - 1, 64, minus - 1},
		{1 << 16, 16, 0},
		{1 << 32, 32, 0},
	} {
		if n, e := alu.Cut(c.a, c.bits); n != c.want || e != api.OK {
			t.Errorf("Cut(%#x, %d): %#x, error %d; want %#x", c.a, c.bits, n, e, c.want)
		}
	}
}

// 1.2: ErrArg at other numbers of bits (32 of Extend that is not wide, too).
func TestBitsRefused(t *testing.T) {
	counts := []int{math.MinInt, math.MaxInt, 1<<32 + 16, 1<<40 + 8, -1 << 32}
	for bits := -130; bits <= 260; bits++ {
		counts = append(counts, bits)
	}
	for _, bits := range counts {
		narrow := bits == 8 || bits == 16
		cut := bits == 16 || bits == 32 || bits == 64
		wantRefused(t, "Extend, not wide", bits, !narrow, func() (uint64, api.Errno) { return alu.Extend(0x8001, bits, false) })
		wantRefused(t, "Extend, wide", bits, !narrow && bits != 32, func() (uint64, api.Errno) { return alu.Extend(0x8001, bits, true) })
		wantRefused(t, "Swap", bits, !cut, func() (uint64, api.Errno) { return alu.Swap(0x8001, bits) })
		wantRefused(t, "Cut", bits, !cut, func() (uint64, api.Errno) { return alu.Cut(0x8001, bits) })
	}
}

func wantRefused(t *testing.T, name string, bits int, want bool, call func() (uint64, api.Errno)) {
	t.Helper()
	n, e := call()
	if want && (n != 0 || e != api.ErrArg) || !want && (n == 0 || e != api.OK) {
		t.Errorf("%s of %d bits: %#x, error %d; refused should be %v", name, bits, n, e, want)
	}
}

// 1.4: what is not wide has no upper half, and swapping twice is cutting.
func TestBitsUndo(t *testing.T) {
	for _, a := range grid() {
		for _, bits := range []int{8, 16} {
			n, _ := alu.Extend(a, bits, false)
			m, _ := alu.Extend(a, bits, true)
			if n != m&(minus32-1) {
				t.Errorf("Extend(%#x, %d): %#x, wide %#x", a, bits, n, m)
			}
		}
		for _, bits := range []int{16, 32, 64} {
			once, _ := alu.Swap(a, bits)
			twice, _ := alu.Swap(once, bits)
			if cut, _ := alu.Cut(a, bits); twice != cut {
				t.Errorf("Swap of Swap(%#x, %d): %#x; want %#x", a, bits, twice, cut)
			}
		}
	}
}
