package insn_test

import (
	"math"
	"testing"

	"portcullis/api"
	"portcullis/insn"
)

// otherFields answers slots of that Op whose other fields differ.
func otherFields(op int) []api.Insn {
	return []api.Insn{
		{Op: op},
		{Op: op, Dst: 10, Src: 9, Off: -7, Imm: -1},
		{Op: op, Dst: 24, Src: 24, Off: 24, Imm: 24},
		{Op: op, Dst: math.MinInt, Src: math.MaxInt, Off: math.MinInt, Imm: math.MaxInt},
	}
}

// 3.2: the class of each Op is told by its lowest three bits, also past 255 and below 0, whatever the other fields are.
func TestClass(t *testing.T) {
	for op := -1024; op <= 1279; op++ {
		want := (op + 1024) % 8
		for _, i := range otherFields(op) {
			if c := insn.Class(i); c != want {
				t.Errorf("Class(%v): %d; want %d", i, c, want)
			}
		}
	}
}

// 3.2: classes of Ops that chapter 4 names, and of those that lie far off.
func TestClassNamed(t *testing.T) {
	for _, c := range []struct{ op, want int }{
		{24, 0},  // LD
		{97, 1},  // LDX
		{98, 2},  // ST
		{99, 3},  // STX
		{220, 4}, // ALU
		{149, 5}, // JMP
		{22, 6},  // JMP32
		{183, 7}, // ALU64
		{256, 0},
		{256 + 183, 7},
		{-1, 7},
		{-8, 0},
		{-256 + 149, 5},
		{math.MaxInt, 7},
		{math.MinInt, 0},
		{math.MinInt + 3, 3},
	} {
		if n := insn.Class(api.Insn{Op: c.op}); n != c.want {
			t.Errorf("Class of Op %d: %d; want %d", c.op, n, c.want)
		}
	}
}

// 3.2: Op 24 alone begins a wide instruction, whatever the other fields are.
func TestWide(t *testing.T) {
	for op := -1024; op <= 1279; op++ {
		for _, i := range otherFields(op) {
			if w := insn.Wide(i); w != (op == 24) {
				t.Errorf("Wide(%v): %v", i, w)
			}
		}
	}
	for _, op := range []int{math.MinInt, math.MaxInt, 1<<32 + 24, -24} {
		if insn.Wide(api.Insn{Op: op}) {
			t.Errorf("Wide of Op %d", op)
		}
	}
}

// sizesOfOps has what the Ops from 0 to 31 move, a digit each; it comes again each 32 Ops.
const sizesOfOps = "04440000" + "02220000" + "01110000" + "08880000"

// 3.2: the bytes that each Op moves, also past 255 and below 0, whatever the other fields are.
func TestSize(t *testing.T) {
	for op := -1024; op <= 1279; op++ {
		want := int(sizesOfOps[(op+1024)%32] - '0')
		for _, i := range otherFields(op) {
			if n := insn.Size(i); n != want {
				t.Errorf("Size(%v): %d; want %d", i, n, want)
			}
		}
	}
}

// 3.2: sizes of Ops that chapter 4 names, and of those that lie far off.
func TestSizeNamed(t *testing.T) {
	for _, c := range []struct{ op, want int }{
		{97, 4}, {105, 2}, {113, 1}, {121, 8},
		{129, 4}, {137, 2}, {145, 1},
		{98, 4}, {106, 2}, {114, 1}, {122, 8},
		{99, 4}, {107, 2}, {115, 1}, {123, 8},
		{195, 4}, {219, 8},
		{24, 0}, {5, 0}, {149, 0}, {22, 0}, {183, 0}, {220, 0}, {215, 0},
		{256 + 121, 8}, {-256 + 113, 1}, {-1, 0}, {-5, 8}, {-29, 4},
		{math.MaxInt, 0}, {math.MaxInt - 4, 8}, {math.MinInt, 0}, {math.MinInt + 1, 4}, {math.MinInt + 18, 1},
	} {
		if n := insn.Size(api.Insn{Op: c.op}); n != c.want {
			t.Errorf("Size of Op %d: %d; want %d", c.op, n, c.want)
		}
	}
}

// 3.2: Imm64 of both Imms, also of negative ones and of such as no field holds; no other field plays a part.
func TestImm64(t *testing.T) {
	for _, c := range []struct {
		a, b int
		want uint64
	}{
		{0, 0, 0},
		{7, 1, 1<<32 + 7},
		{1, 0, 1},
		{0, 1, 1 << 32},
		{math.MaxInt32, 0, 1<<31 - 1},
		{0, math.MaxInt32, (1<<31 - 1) << 32},
		{math.MaxInt32, math.MaxInt32, 0x7FFFFFFF7FFFFFFF},
		{-1, 0, 0x00000000FFFFFFFF},
		{-1, 5, 0x00000005FFFFFFFF},
		{0, -1, 0xFFFFFFFF00000000},
		{5, -1, 0xFFFFFFFF00000005},
		{-1, -1, 0xFFFFFFFFFFFFFFFF},
		{-3, -2, 0xFFFFFFFEFFFFFFFD},
		{math.MinInt32, 0, 1 << 31},
		{0, math.MinInt32, 1 << 63},
		{math.MinInt32, math.MinInt32, 1<<63 + 1<<31},
		{math.MinInt32, math.MaxInt32, 0x7FFFFFFF80000000},
		{0x12345678, -0x789ABCDF, 0x8765432112345678},
		{1<<32 + 7, 0, 7},
		{1<<32 - 1, 0, 0xFFFFFFFF},
		{-1 << 32, 0, 0},
		{-1<<32 + 9, 2, 2<<32 + 9},
		{0, 1<<32 + 5, 5 << 32},
		{0, 1<<32 - 1, 0xFFFFFFFF00000000},
		{3, -1 << 32, 3},
		{math.MaxInt, math.MaxInt, 0xFFFFFFFFFFFFFFFF},
		{math.MinInt, math.MinInt, 0},
	} {
		for _, a := range otherFields(24) {
			for _, b := range otherFields(0) {
				a.Imm, b.Imm = c.a, c.b
				if n := insn.Imm64(a, b); n != c.want {
					t.Errorf("Imm64(%v, %v): %#x; want %#x", a, b, n, c.want)
				}
			}
		}
	}
}

// 3.2: Lay64 of a number: its lower half in the first slot, its upper half in the second, which is zeros beside it.
func TestLay64(t *testing.T) {
	for _, c := range []struct {
		n    uint64
		a, b int
	}{
		{0, 0, 0},
		{1, 1, 0},
		{1<<31 - 1, 2147483647, 0},
		{1 << 31, -2147483648, 0},
		{1<<31 + 1, -2147483647, 0},
		{1<<32 - 1, -1, 0},
		{1 << 32, 0, 1},
		{1<<32 + 7, 7, 1},
		{1<<33 - 1, -1, 1},
		{1<<63 - 1, -1, 2147483647},
		{1 << 63, 0, -2147483648},
		{1<<63 + 1<<31, -2147483648, -2147483648},
		{1<<64 - 1<<32, 0, -1},
		{1<<64 - 2, -2, -1},
		{1<<64 - 1, -1, -1},
		{0x123456789ABCDEF0, -0x65432110, 0x12345678},
		{0x9ABCDEF012345678, 0x12345678, -0x65432110},
	} {
		for _, dst := range []int{0, 1, 9, 10, 15, 16, 24, 255, -1, math.MinInt, math.MaxInt} {
			got := insn.Lay64(dst, c.n)
			want := [2]api.Insn{{Op: 24, Dst: dst, Imm: c.a}, {Imm: c.b}}
			if got != want {
				t.Errorf("Lay64(%d, %#x): %v; want %v", dst, c.n, got, want)
			}
		}
	}
}
