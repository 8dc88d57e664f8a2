package branch_test

import (
	"testing"

	"portcullis/branch"
)

func wantNot(t *testing.T, op, due int) {
	t.Helper()
	if got := branch.Not(op); got != due {
		t.Errorf("Not(%d): %d; want %d", op, got, due)
	}
}

// 17.1: the opposite of each op, both ways.
func TestNot(t *testing.T) {
	for _, both := range [][2]int{{16, 80}, {32, 176}, {48, 160}, {64, 68}, {96, 208}, {112, 192}} {
		wantNot(t, both[0], both[1])
		wantNot(t, both[1], both[0])
	}
}

// 17.1: Not of Not is the op itself, and the op none of its own opposite.
func TestNotNot(t *testing.T) {
	for _, op := range ops {
		wantNot(t, branch.Not(op), op)
		if branch.Not(op) == op {
			t.Errorf("Not(%d) is the op itself", op)
		}
	}
}

// 17.1: -1 of all that are none.
func TestNotOfOthers(t *testing.T) {
	for _, n := range []int{-1, -16, -64, -80, 0, 5, 128, 144, 255, 224, 240, 256} {
		wantNot(t, n, -1)
	}
	for _, op := range ops {
		wantNot(t, op-1, -1)
		wantNot(t, op+1, -1)
		wantNot(t, -op, -1)
		wantNot(t, op+256, -1)
		wantNot(t, op+1<<32, -1)
	}
	for _, n := range noOps() {
		wantNot(t, n, -1)
	}
}

// 17.1, T8: of two numbers the test of just one, of an op and its opposite, is true.
func TestNotIsOpposite(t *testing.T) {
	edge := []uint64{0, 1, 2, 5, top32 - 1, top32, low32, low32 + 1, top - 1, top, all - 1, all}
	for _, op := range ops {
		for _, wide := range []bool{true, false} {
			for _, x := range edge {
				for _, y := range edge {
					if holds(op, wide, x, y) == holds(branch.Not(op), wide, x, y) {
						t.Errorf("of %d and %d tests %d and %d (wide %v) are the same", x, y, op, branch.Not(op), wide)
					}
				}
			}
		}
	}
}
