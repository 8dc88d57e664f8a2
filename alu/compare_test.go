package alu_test

import (
	"math"
	"testing"

	"portcullis/alu"
	"portcullis/api"
)

var testOps = []int{16, 32, 48, 64, 80, 96, 112, 160, 176, 192, 208}

// holds tells which ops are true of a and b; all others are to be false.
func holds(t *testing.T, wide bool, a, b uint64, ops ...int) {
	t.Helper()
	want := map[int]bool{}
	for _, op := range ops {
		want[op] = true
	}
	for _, op := range testOps {
		if ok, e := alu.Test(op, wide, a, b); ok != want[op] || e != api.OK {
			t.Errorf("Test(%d, %v, %#x, %#x): %v, error %d; want %v", op, wide, a, b, ok, e, want[op])
		}
	}
}

// 1.3: each op of 64 bits, and where numbers and signed ones, halves and wholes say otherwise.
func TestTestWide(t *testing.T) {
	holds(t, true, 0, 0, 16, 48, 112, 176, 208)
	holds(t, true, 5, 5, 16, 48, 64, 112, 176, 208)
	holds(t, true, 5, 2, 32, 48, 80, 96, 112)
	holds(t, true, 2, 5, 80, 160, 176, 192, 208)
	holds(t, true, 3, 5, 64, 80, 160, 176, 192, 208)
	holds(t, true, 2, minus-1, 64, 80, 96, 112, 160, 176)
	holds(t, true, minus-1, 2, 32, 48, 64, 80, 192, 208)
	holds(t, true, minus-2, minus-1, 64, 80, 160, 176, 192, 208)
	holds(t, true, least, least-1, 32, 48, 80, 192, 208)
	holds(t, true, least32, least32-1, 32, 48, 80, 96, 112)
	holds(t, true, minus32, 1, 32, 48, 80, 96, 112)
	holds(t, true, minus32+1, 1, 32, 48, 64, 80, 96, 112)
	holds(t, true, minus32, minus32+2, 64, 80, 160, 176, 192, 208)
}

// 1.3: each op of 32 bits, where the upper halves would say otherwise.
func TestTestNarrow(t *testing.T) {
	holds(t, false, upper, least, 16, 48, 112, 176, 208)
	holds(t, false, upper+5, 5, 16, 48, 64, 112, 176, 208)
	holds(t, false, 5, upper+2, 32, 48, 80, 96, 112)
	holds(t, false, least+2, 5, 80, 160, 176, 192, 208)
	holds(t, false, upper+3, 5, 64, 80, 160, 176, 192, 208)
	holds(t, false, 2, minus32-1, 64, 80, 96, 112, 160, 176)
	holds(t, false, minus32-1, upper+2, 32, 48, 64, 80, 192, 208)
	holds(t, false, least32, least32-1, 32, 48, 80, 192, 208)
	holds(t, false, upper+least32-1, least+least32, 80, 96, 112, 160, 176)
	holds(t, false, minus32, minus32+2, 80, 160, 176, 192, 208)
}

// 1.3: ErrArg for another op.
func TestTestRefuses(t *testing.T) {
	ops := map[int]bool{}
	for _, op := range testOps {
		ops[op] = true
	}
	wrong := []int{math.MinInt, math.MaxInt, math.MinInt + 16, 1<<32 + 16, 1<<62 + 64}
	for op := -600; op <= 600; op++ {
		if !ops[op] {
			wrong = append(wrong, op)
		}
	}
	for _, op := range wrong {
		for _, wide := range []bool{false, true} {
			for _, b := range []uint64{0, 3, minus - 1} {
				if ok, e := alu.Test(op, wide, 3, b); ok || e != api.ErrArg {
					t.Errorf("Test(%d, %v, 3, %#x): %v, error %d; want ErrArg", op, wide, b, ok, e)
				}
			}
		}
	}
}

// 1.4: each test and its opposite are never the same; the other way round of a and b is known, too.
func TestOpposites(t *testing.T) {
	for _, wide := range []bool{false, true} {
		for _, a := range grid() {
			for _, b := range grid() {
				for _, p := range [][2]int{{16, 80}, {32, 176}, {48, 160}, {96, 208}, {112, 192}} {
					x, _ := alu.Test(p[0], wide, a, b)
					y, _ := alu.Test(p[1], wide, a, b)
					if x == y {
						t.Fatalf("wide %v, %#x, %#x: both %d and %d are %v", wide, a, b, p[0], p[1], x)
					}
				}
				for _, p := range [][2]int{{16, 16}, {32, 160}, {48, 176}, {64, 64}, {96, 192}, {112, 208}} {
					x, _ := alu.Test(p[0], wide, a, b)
					y, _ := alu.Test(p[1], wide, b, a)
					if x != y {
						t.Fatalf("wide %v, %#x, %#x: %d is %v, but %d the other way round %v", wide, a, b, p[0], x, p[1], y)
					}
				}
			}
		}
	}
}

// 1.4: of 32 bits only the lower halves play a part.
func TestTestNarrowHasNoUpperHalf(t *testing.T) {
	for _, op := range testOps {
		for _, a := range grid() {
			for _, b := range grid() {
				x, _ := alu.Test(op, false, a, b)
				y, _ := alu.Test(op, false, a^upper, b^(least+minus32))
				if x != y {
					t.Fatalf("Test(%d, %#x, %#x): %v; with other upper halves %v", op, a, b, x, y)
				}
			}
		}
	}
}
