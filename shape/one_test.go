package shape_test

import (
	"math"
	"slices"
	"strings"
	"testing"

	"portcullis/api"
	"portcullis/shape"
)

// rows has lines of each row of chapter 4's table but the wide ones, where there are both with an Imm and with Src.
func rows() []string {
	var out []string
	add := func(s ...string) { out = append(out, s...) }
	for _, op := range strings.Fields("+= -= *= /= |= &= <<= >>= %= ^= = s>>= s/= s%=") {
		add("r1 "+op+" 7", "r1 "+op+" r2", "w1 "+op+" 7", "w1 "+op+" w2")
	}
	add("r1 = (s8)r2", "r1 = (s16)r2", "r1 = (s32)r2", "w1 = (s8)w2", "w1 = (s16)w2", "r1 = -r1", "w1 = -w1")
	for _, op := range strings.Fields("le16 le32 le64 be16 be32 be64 bswap16 bswap32 bswap64") {
		add("r1 = " + op + " r1")
	}
	for _, size := range strings.Fields("u8 u16 u32 u64") {
		add("r1 = *("+size+" *)(r2 + 4)", "*("+size+" *)(r1 - 4) = 7", "*("+size+" *)(r1 + 4) = r2")
	}
	for _, size := range strings.Fields("s8 s16 s32") {
		add("r1 = *(" + size + " *)(r2 + 4)")
	}
	for _, size := range strings.Fields("u32 u64") {
		for _, op := range strings.Fields("+= |= &= ^=") {
			add("lock *("+size+" *)(r1 + 4) "+op+" r2", "lock *("+size+" *)(r1 + 4) "+op+" r2 fetch")
		}
		add("lock *("+size+" *)(r1 + 4) xchg r2", "lock *("+size+" *)(r1 + 4) cmpxchg r2")
	}
	for _, op := range strings.Fields("== > >= & != s> s>= < <= s< s<=") {
		add("if r1 "+op+" 7 goto +4", "if r1 "+op+" r2 goto +4", "if w1 "+op+" 7 goto +4", "if w1 "+op+" w2 goto +4")
	}
	add("goto +4", "goto -4", "call 5", "call -5", "exit")
	return out
}

// 5.1: each row of the table, by its line and by its numbers.
func TestOneRows(t *testing.T) {
	for _, s := range rows() {
		wantOne(t, slot(t, s), true)
	}
	for _, i := range []api.Insn{
		{Op: 183, Dst: 1, Imm: 5}, {Op: 4, Dst: 1, Imm: -3}, {Op: 99, Dst: 10, Src: 1, Off: -4}, {Op: 21, Dst: 1, Off: 3}, {Op: 5, Off: -2},
		{Op: 15, Dst: 1, Src: 2}, {Op: 63, Dst: 4, Src: 5, Off: 1}, {Op: 148, Dst: 4, Off: 1, Imm: 7}, {Op: 191, Dst: 4, Src: 5, Off: 32},
		{Op: 135, Dst: 3}, {Op: 132}, {Op: 212, Imm: 16}, {Op: 220, Imm: 32}, {Op: 215, Imm: 64}, {Op: 121, Dst: 2, Src: 10, Off: -8},
		{Op: 129, Dst: 2, Src: 1}, {Op: 145, Dst: 2, Src: 1}, {Op: 122, Dst: 10, Off: -8, Imm: -1}, {Op: 195, Dst: 1, Src: 2, Imm: 81},
		{Op: 219, Dst: 1, Src: 2, Imm: 225}, {Op: 219, Dst: 1, Src: 2, Imm: 241}, {Op: 221, Dst: 1, Src: 2, Off: 9}, {Op: 133, Imm: 77}, {Op: 149},
	} {
		wantOne(t, i, true)
	}
}

// 5.1: the Ops of which there is no instruction, whatever the other fields, and those of which there is one.
func TestOneOps(t *testing.T) {
	have := []int{24, 5, 133, 149, 97, 105, 113, 121, 129, 137, 145, 98, 106, 114, 122, 99, 107, 115, 123, 195, 219, 132, 135, 212, 220, 215}
	for _, kind := range []int{0, 16, 32, 48, 64, 80, 96, 112, 144, 160, 176, 192} {
		have = append(have, kind+4, kind+12, kind+7, kind+15)
	}
	for _, kind := range []int{16, 32, 48, 64, 80, 96, 112, 160, 176, 192, 208} {
		have = append(have, kind+5, kind+13, kind+6, kind+14)
	}
	for op := -300; op < 600; op++ {
		some := false
		for _, off := range []int{0, 1, 8} {
			for _, imm := range []int{0, 1, 16, 64, 225} {
				for src := range 2 {
					some = some || shape.One(api.Insn{Op: op, Src: src, Off: off, Imm: imm})
				}
			}
		}
		if want := slices.Contains(have, op); some != want {
			t.Errorf("an instruction of Op %d: %v; want %v", op, some, want)
		}
	}
}

// 5.1: the first slot of a wide instruction.
func TestOneWide(t *testing.T) {
	for _, c := range []struct {
		i    api.Insn
		want bool
	}{
		{api.Insn{Op: 24}, true},
		{api.Insn{Op: 24, Dst: 9, Imm: 7}, true},
		{api.Insn{Op: 24, Dst: 10, Imm: 7}, false},
		{api.Insn{Op: 24, Dst: 11, Imm: 7}, false},
		{api.Insn{Op: 24, Dst: -1, Imm: 7}, false},
		{api.Insn{Op: 24, Imm: -1}, true},
		{api.Insn{Op: 24, Imm: math.MinInt32}, true},
		{api.Insn{Op: 24, Imm: math.MaxInt32}, true},
		{api.Insn{Op: 24, Imm: math.MinInt32 - 1}, false},
		{api.Insn{Op: 24, Imm: math.MaxInt32 + 1}, false},
		{api.Insn{Op: 24, Src: 1}, true},
		{api.Insn{Op: 24, Dst: 9, Src: 1, Imm: 7}, true},
		{api.Insn{Op: 24, Dst: 10, Src: 1, Imm: 7}, false},
		{api.Insn{Op: 24, Src: 1, Imm: math.MaxInt32}, true},
		{api.Insn{Op: 24, Src: 1, Imm: math.MaxInt32 + 1}, false},
		{api.Insn{Op: 24, Src: 1, Imm: -1}, false},
		{api.Insn{Op: 24, Src: 1, Imm: math.MinInt32}, false},
		{api.Insn{Op: 24, Src: 2}, false},
		{api.Insn{Op: 24, Src: 2, Imm: -1}, false},
		{api.Insn{Op: 24, Src: -1}, false},
		{api.Insn{Op: 24, Src: 10}, false},
		{api.Insn{Op: 24, Off: 1}, false},
		{api.Insn{Op: 24, Src: 1, Off: -1}, false},
		{api.Insn{Op: 0}, false},
		{api.Insn{Op: 16}, false},
		{api.Insn{Op: 32}, false},
		{api.Insn{Op: 280}, false},
	} {
		wantOne(t, c.i, c.want)
	}
}

// 5.1: Dst at 0, 9 and 10, and past them: 10 of what writes it is refused, and of what only reads it is not.
func TestOneDst(t *testing.T) {
	for _, s := range rows() {
		i := slot(t, s)
		if i.Dst != 1 {
			continue // the line names none
		}
		class := i.Op % 8
		writes := class == 1 || class == 4 || class == 7
		for dst, want := range map[int]bool{-11: false, -1: false, 0: true, 9: true, 10: !writes, 11: false, 15: false, 16: false, 256: false, math.MinInt: false, math.MaxInt: false} {
			i.Dst = dst
			wantOne(t, i, want)
		}
	}
}

// 5.1: Src at 0, 9 and 10, and past them: 10 of a fetch and an xchg is refused, for they write it.
func TestOneSrc(t *testing.T) {
	for _, s := range rows() {
		i := slot(t, s)
		if i.Src != 2 {
			continue
		}
		writes := strings.HasSuffix(s, "fetch") || strings.HasSuffix(s, " xchg r2")
		for src, want := range map[int]bool{-11: false, -1: false, 0: true, 9: true, 10: !writes, 11: false, 15: false, 16: false, 256: false, math.MinInt: false, math.MaxInt: false} {
			i.Src = src
			wantOne(t, i, want)
		}
	}
}

// 5.1: what is done in one go with Src 10, by its numbers.
func TestOneLockOfTheLastRegister(t *testing.T) {
	for _, op := range []int{195, 219} {
		for imm, want := range map[int]bool{0: true, 64: true, 80: true, 160: true, 241: true, 1: false, 65: false, 81: false, 161: false, 225: false} {
			wantOne(t, api.Insn{Op: op, Dst: 10, Src: 10, Imm: imm}, want)
			wantOne(t, api.Insn{Op: op, Dst: 10, Src: 9, Imm: imm}, true)
		}
	}
}

// 5.1: a field that the line does not say is 0.
func TestOneFieldsUnsaid(t *testing.T) {
	for _, s := range rows() {
		i := slot(t, s)
		hasImm := strings.HasSuffix(s, " 7") || strings.Contains(s, " 7 goto") || strings.HasPrefix(s, "call")
		// What is done in one go and how many bits are turned round stand in Imm, of which there are several.
		fixed := strings.HasPrefix(s, "lock") || slices.Contains([]int{212, 220, 215}, i.Op)
		for _, n := range []int{-1, 1, 2, 10} {
			if i.Dst == 0 {
				wantOne(t, api.Insn{Op: i.Op, Dst: n, Src: i.Src, Off: i.Off, Imm: i.Imm}, false)
			}
			if i.Src == 0 {
				wantOne(t, api.Insn{Op: i.Op, Dst: i.Dst, Src: n, Off: i.Off, Imm: i.Imm}, false)
			}
			if i.Off == 0 && (n != 1 || !strings.Contains(s, "/=") && !strings.Contains(s, "%=")) {
				wantOne(t, api.Insn{Op: i.Op, Dst: i.Dst, Src: i.Src, Off: n, Imm: i.Imm}, false)
			}
			if !hasImm && !fixed {
				wantOne(t, api.Insn{Op: i.Op, Dst: i.Dst, Src: i.Src, Off: i.Off, Imm: n}, false)
			}
		}
	}
}

// 5.1: the Offs of an ALU: 1 of / and %, 8, 16 and of 64 bits 32 of a mov with Src, and 0.
func TestOneAluOff(t *testing.T) {
	for off := -70; off <= 70; off++ {
		for _, kind := range []int{0, 16, 32, 48, 64, 80, 96, 112, 144, 160, 176, 192} {
			divides := kind == 48 || kind == 144
			for _, class := range []int{4, 7} {
				want := off == 0 || divides && off == 1
				wantOne(t, api.Insn{Op: kind + class, Off: off, Imm: 1}, want)
				mov := kind == 176 && (off == 8 || off == 16 || off == 32 && class == 7)
				wantOne(t, api.Insn{Op: kind + class + 8, Off: off}, want || mov)
			}
		}
	}
}

// 5.1: the Imm of a shift: 0 to 63, of 32 bits 0 to 31; with Src it is 0.
func TestOneShiftImm(t *testing.T) {
	for _, kind := range []int{96, 112, 192} {
		for _, imm := range []int{math.MinInt32, -64, -32, -1, 0, 1, 30, 31, 32, 33, 62, 63, 64, 65, 255, 256, math.MaxInt32} {
			wantOne(t, api.Insn{Op: kind + 7, Imm: imm}, imm >= 0 && imm <= 63)
			wantOne(t, api.Insn{Op: kind + 4, Imm: imm}, imm >= 0 && imm <= 31)
			wantOne(t, api.Insn{Op: kind + 15, Imm: imm}, imm == 0)
			wantOne(t, api.Insn{Op: kind + 12, Imm: imm}, imm == 0)
		}
	}
	wantOne(t, api.Insn{Op: 103, Dst: 1, Imm: 64}, false)
}

// 5.1: the Imm of / and %, with and without a sign, is not 0; by Src they may be.
func TestOneDivisionImm(t *testing.T) {
	for _, op := range []int{48 + 4, 48 + 7, 144 + 4, 144 + 7} {
		for off := range 2 {
			for _, imm := range []int{math.MinInt32, -1, 1, 64, math.MaxInt32} {
				wantOne(t, api.Insn{Op: op, Off: off, Imm: imm}, true)
			}
			wantOne(t, api.Insn{Op: op, Off: off}, false)
			wantOne(t, api.Insn{Op: op + 8, Off: off}, true)
			wantOne(t, api.Insn{Op: op + 8, Off: off, Imm: 1}, false)
		}
	}
}

// 5.1: other Imms may be any of 32 bits.
func TestOneImmEdges(t *testing.T) {
	for _, op := range []int{7, 4, 39, 71, 164, 183, 180, 98, 122, 21, 22, 213, 133} {
		for _, imm := range []int{math.MinInt32, -1, 0, math.MaxInt32} {
			wantOne(t, api.Insn{Op: op, Imm: imm}, true)
		}
		for _, imm := range []int{math.MinInt, math.MinInt32 - 1, math.MaxInt32 + 1, 1 << 32, -1 << 32, math.MaxInt} {
			wantOne(t, api.Insn{Op: op, Imm: imm}, false)
		}
	}
}

// 5.1: Offs that a line says may be any of 16 bits.
func TestOneOffEdges(t *testing.T) {
	for _, op := range []int{97, 121, 129, 98, 122, 99, 123, 195, 219, 5, 21, 29, 22, 30} {
		for _, off := range []int{-32768, -1, 0, 1, 32767} {
			wantOne(t, api.Insn{Op: op, Off: off}, true)
		}
		for _, off := range []int{math.MinInt, -65536, -32769, 32768, 65536, math.MaxInt} {
			wantOne(t, api.Insn{Op: op, Off: off}, false)
		}
	}
}

// 5.1: an Imm that is fixed is one of the table's: of what is done in one go, of what turns bytes round.
func TestOneFixedImm(t *testing.T) {
	locks := []int{0, 1, 64, 65, 80, 81, 160, 161, 225, 241}
	turns := []int{16, 32, 64}
	for imm := -300; imm < 600; imm++ {
		wantOne(t, api.Insn{Op: 195, Imm: imm}, slices.Contains(locks, imm))
		wantOne(t, api.Insn{Op: 219, Imm: imm}, slices.Contains(locks, imm))
		wantOne(t, api.Insn{Op: 203, Imm: imm}, false)
		wantOne(t, api.Insn{Op: 211, Imm: imm}, false)
		for _, op := range []int{212, 220, 215} {
			wantOne(t, api.Insn{Op: op, Imm: imm}, slices.Contains(turns, imm))
		}
		wantOne(t, api.Insn{Op: 223, Imm: imm}, false)
	}
}

// 5.1: One of slots of each Op, with numbers at the fields' edges and beside those that the table names, tells what chapter 4's lines tell.
func TestOneAsTheLinesTell(t *testing.T) {
	registers := []int{-1, 0, 1, 2, 9, 10, 11}
	offs := []int{-32769, -32768, -1, 0, 1, 2, 8, 9, 16, 32, 64, 32767, 32768}
	imms := []int{
		math.MinInt32 - 1, math.MinInt32, -1, 0, 1, 2, 15, 16, 31, 32, 33, 63, 64, 65, 66, 80, 81, 160, 161,
		224, 225, 226, 240, 241, 242, math.MaxInt32, math.MaxInt32 + 1,
	}
	look := func(i api.Insn) {
		if got, want := shape.One(i), allowedOne(i); got != want {
			t.Fatalf("One(%v): %v; want %v", i, got, want)
		}
	}
	for op := -1; op <= 256; op++ {
		for _, dst := range registers {
			for _, src := range registers {
				for _, imm := range []int{0, 1, 16, 225, 241} {
					look(api.Insn{Op: op, Dst: dst, Src: src, Imm: imm})
					look(api.Insn{Op: op, Dst: dst, Src: src, Off: 8, Imm: imm})
				}
			}
		}
		for _, off := range offs {
			for _, imm := range imms {
				for src := range 3 {
					look(api.Insn{Op: op, Src: src, Off: off, Imm: imm})
				}
			}
		}
	}
}
