package asm_test

import (
	"math"
	"slices"
	"strconv"
	"strings"
	"testing"

	"portcullis/api"
	"portcullis/asm"
)

// form is how an instruction of one slot is written: D and S stand for the registers' numbers, I for Imm, O for Off with blanks, G for a jump's Off. Off and Imm are those that go with it where it doesn't say them.
type form struct {
	text         string
	op, off, imm int
}

// forms has the table's instructions of one slot, each written out.
func forms() []form {
	return []form{
		{"rD += I", 7, 0, 0}, {"rD += rS", 15, 0, 0}, {"wD += I", 4, 0, 0}, {"wD += wS", 12, 0, 0},
		{"rD -= I", 23, 0, 0}, {"rD -= rS", 31, 0, 0}, {"wD -= I", 20, 0, 0}, {"wD -= wS", 28, 0, 0},
		{"rD *= I", 39, 0, 0}, {"rD *= rS", 47, 0, 0}, {"wD *= I", 36, 0, 0}, {"wD *= wS", 44, 0, 0},
		{"rD /= I", 55, 0, 0}, {"rD /= rS", 63, 0, 0}, {"wD /= I", 52, 0, 0}, {"wD /= wS", 60, 0, 0},
		{"rD s/= I", 55, 1, 0}, {"rD s/= rS", 63, 1, 0}, {"wD s/= I", 52, 1, 0}, {"wD s/= wS", 60, 1, 0},
		{"rD |= I", 71, 0, 0}, {"rD |= rS", 79, 0, 0}, {"wD |= I", 68, 0, 0}, {"wD |= wS", 76, 0, 0},
		{"rD &= I", 87, 0, 0}, {"rD &= rS", 95, 0, 0}, {"wD &= I", 84, 0, 0}, {"wD &= wS", 92, 0, 0},
		{"rD <<= I", 103, 0, 0}, {"rD <<= rS", 111, 0, 0}, {"wD <<= I", 100, 0, 0}, {"wD <<= wS", 108, 0, 0},
		{"rD >>= I", 119, 0, 0}, {"rD >>= rS", 127, 0, 0}, {"wD >>= I", 116, 0, 0}, {"wD >>= wS", 124, 0, 0},
		{"rD %= I", 151, 0, 0}, {"rD %= rS", 159, 0, 0}, {"wD %= I", 148, 0, 0}, {"wD %= wS", 156, 0, 0},
		{"rD s%= I", 151, 1, 0}, {"rD s%= rS", 159, 1, 0}, {"wD s%= I", 148, 1, 0}, {"wD s%= wS", 156, 1, 0},
		{"rD ^= I", 167, 0, 0}, {"rD ^= rS", 175, 0, 0}, {"wD ^= I", 164, 0, 0}, {"wD ^= wS", 172, 0, 0},
		{"rD = I", 183, 0, 0}, {"rD = rS", 191, 0, 0}, {"wD = I", 180, 0, 0}, {"wD = wS", 188, 0, 0},
		{"rD s>>= I", 199, 0, 0}, {"rD s>>= rS", 207, 0, 0}, {"wD s>>= I", 196, 0, 0}, {"wD s>>= wS", 204, 0, 0},
		{"rD = (s8)rS", 191, 8, 0}, {"rD = (s16)rS", 191, 16, 0}, {"rD = (s32)rS", 191, 32, 0},
		{"wD = (s8)wS", 188, 8, 0}, {"wD = (s16)wS", 188, 16, 0},
		{"rD = -rD", 135, 0, 0}, {"wD = -wD", 132, 0, 0},
		{"rD = le16 rD", 212, 0, 16}, {"rD = le32 rD", 212, 0, 32}, {"rD = le64 rD", 212, 0, 64},
		{"rD = be16 rD", 220, 0, 16}, {"rD = be32 rD", 220, 0, 32}, {"rD = be64 rD", 220, 0, 64},
		{"rD = bswap16 rD", 215, 0, 16}, {"rD = bswap32 rD", 215, 0, 32}, {"rD = bswap64 rD", 215, 0, 64},
		{"rD = *(u32 *)(rSO)", 97, 0, 0}, {"rD = *(u16 *)(rSO)", 105, 0, 0}, {"rD = *(u8 *)(rSO)", 113, 0, 0}, {"rD = *(u64 *)(rSO)", 121, 0, 0},
		{"rD = *(s32 *)(rSO)", 129, 0, 0}, {"rD = *(s16 *)(rSO)", 137, 0, 0}, {"rD = *(s8 *)(rSO)", 145, 0, 0},
		{"*(u32 *)(rDO) = I", 98, 0, 0}, {"*(u16 *)(rDO) = I", 106, 0, 0}, {"*(u8 *)(rDO) = I", 114, 0, 0}, {"*(u64 *)(rDO) = I", 122, 0, 0},
		{"*(u32 *)(rDO) = rS", 99, 0, 0}, {"*(u16 *)(rDO) = rS", 107, 0, 0}, {"*(u8 *)(rDO) = rS", 115, 0, 0}, {"*(u64 *)(rDO) = rS", 123, 0, 0},
		{"lock *(u32 *)(rDO) += rS", 195, 0, 0}, {"lock *(u64 *)(rDO) += rS", 219, 0, 0},
		{"lock *(u32 *)(rDO) += rS fetch", 195, 0, 1}, {"lock *(u64 *)(rDO) += rS fetch", 219, 0, 1},
		{"lock *(u32 *)(rDO) |= rS", 195, 0, 64}, {"lock *(u64 *)(rDO) |= rS", 219, 0, 64},
		{"lock *(u32 *)(rDO) |= rS fetch", 195, 0, 65}, {"lock *(u64 *)(rDO) |= rS fetch", 219, 0, 65},
		{"lock *(u32 *)(rDO) &= rS", 195, 0, 80}, {"lock *(u64 *)(rDO) &= rS", 219, 0, 80},
		{"lock *(u32 *)(rDO) &= rS fetch", 195, 0, 81}, {"lock *(u64 *)(rDO) &= rS fetch", 219, 0, 81},
		{"lock *(u32 *)(rDO) ^= rS", 195, 0, 160}, {"lock *(u64 *)(rDO) ^= rS", 219, 0, 160},
		{"lock *(u32 *)(rDO) ^= rS fetch", 195, 0, 161}, {"lock *(u64 *)(rDO) ^= rS fetch", 219, 0, 161},
		{"lock *(u32 *)(rDO) xchg rS", 195, 0, 225}, {"lock *(u64 *)(rDO) xchg rS", 219, 0, 225},
		{"lock *(u32 *)(rDO) cmpxchg rS", 195, 0, 241}, {"lock *(u64 *)(rDO) cmpxchg rS", 219, 0, 241},
		{"goto G", 5, 0, 0},
		{"if rD == I goto G", 21, 0, 0}, {"if rD == rS goto G", 29, 0, 0}, {"if wD == I goto G", 22, 0, 0}, {"if wD == wS goto G", 30, 0, 0},
		{"if rD > I goto G", 37, 0, 0}, {"if rD > rS goto G", 45, 0, 0}, {"if wD > I goto G", 38, 0, 0}, {"if wD > wS goto G", 46, 0, 0},
		{"if rD >= I goto G", 53, 0, 0}, {"if rD >= rS goto G", 61, 0, 0}, {"if wD >= I goto G", 54, 0, 0}, {"if wD >= wS goto G", 62, 0, 0},
		{"if rD & I goto G", 69, 0, 0}, {"if rD & rS goto G", 77, 0, 0}, {"if wD & I goto G", 70, 0, 0}, {"if wD & wS goto G", 78, 0, 0},
		{"if rD != I goto G", 85, 0, 0}, {"if rD != rS goto G", 93, 0, 0}, {"if wD != I goto G", 86, 0, 0}, {"if wD != wS goto G", 94, 0, 0},
		{"if rD s> I goto G", 101, 0, 0}, {"if rD s> rS goto G", 109, 0, 0}, {"if wD s> I goto G", 102, 0, 0}, {"if wD s> wS goto G", 110, 0, 0},
		{"if rD s>= I goto G", 117, 0, 0}, {"if rD s>= rS goto G", 125, 0, 0}, {"if wD s>= I goto G", 118, 0, 0}, {"if wD s>= wS goto G", 126, 0, 0},
		{"if rD < I goto G", 165, 0, 0}, {"if rD < rS goto G", 173, 0, 0}, {"if wD < I goto G", 166, 0, 0}, {"if wD < wS goto G", 174, 0, 0},
		{"if rD <= I goto G", 181, 0, 0}, {"if rD <= rS goto G", 189, 0, 0}, {"if wD <= I goto G", 182, 0, 0}, {"if wD <= wS goto G", 190, 0, 0},
		{"if rD s< I goto G", 197, 0, 0}, {"if rD s< rS goto G", 205, 0, 0}, {"if wD s< I goto G", 198, 0, 0}, {"if wD s< wS goto G", 206, 0, 0},
		{"if rD s<= I goto G", 213, 0, 0}, {"if rD s<= rS goto G", 221, 0, 0}, {"if wD s<= I goto G", 214, 0, 0}, {"if wD s<= wS goto G", 222, 0, 0},
		{"call I", 133, 0, 0},
		{"exit", 149, 0, 0},
	}
}

// says answers whether the form says one of the fields that these letters stand for.
func (f form) says(letters string) bool { return strings.ContainsAny(f.text, letters) }

// fill answers the form's line and slot with these numbers in the fields that it says.
func (f form) fill(dst, src, off, imm int) (string, api.Insn) {
	i := api.Insn{Op: f.op, Off: f.off, Imm: f.imm}
	if f.says("D") {
		i.Dst = dst
	}
	if f.says("S") {
		i.Src = src
	}
	if f.says("OG") {
		i.Off = off
	}
	if f.says("I") {
		i.Imm = imm
	}
	sign, size := "+", strconv.Itoa(off)
	if off < 0 {
		sign, size = "-", strings.TrimPrefix(size, "-")
	}
	return strings.NewReplacer(
		"D", strconv.Itoa(dst),
		"S", strconv.Itoa(src),
		"O", " "+sign+" "+size,
		"G", sign+size,
		"I", strconv.Itoa(imm),
	).Replace(f.text), i
}

// line is a line and the slots for which it stands.
type line struct {
	text  string
	slots []api.Insn
}

// edges answers the lines of all instructions, with each number that a line says at its edges and at those beside 0.
func edges() []line {
	var out []line
	offs := []int{-32768, -32767, -10, -1, 0, 1, 10, 32766, 32767}
	imms := []int{math.MinInt32, math.MinInt32 + 1, -10, -1, 0, 1, 9, 10, 100, math.MaxInt32 - 1, math.MaxInt32}
	for _, f := range forms() {
		seen := map[string]int{}
		add := func(dst, src, off, imm int) {
			s, i := f.fill(dst, src, off, imm)
			if seen[s] == 0 {
				out = append(out, line{s, []api.Insn{i}})
			}
			seen[s]++
		}
		for n := range 11 {
			add(n, 0, 0, 0)
			add(0, n, 0, 0)
			add(n, 10-n, -n, n)
		}
		for _, off := range offs {
			for _, imm := range imms {
				add(1, 2, off, imm)
			}
		}
	}
	return append(out, wides()...)
}

// wides answers lines of wide instructions.
func wides() []line {
	var out []line
	numbers := []uint64{0, math.MaxUint64, 7, 10, 1<<32 + 7, 1000000000000}
	for bit := range 64 {
		numbers = append(numbers, 1<<bit, 1<<bit-1, -(1 << bit))
	}
	for k, n := range numbers {
		d := k % 11
		out = append(out, line{"r" + strconv.Itoa(d) + " = " + strconv.FormatUint(n, 10) + " ll", []api.Insn{
			{Op: 24, Dst: d, Imm: int(int32(uint32(n)))},
			{Imm: int(int32(uint32(n >> 32)))},
		}})
	}
	for k, n := range []int{0, 1, 3, 63, 10, math.MaxInt32, -1, math.MinInt32} {
		out = append(out, line{"r" + strconv.Itoa(10-k) + " = map " + strconv.Itoa(n) + " ll", []api.Insn{{Op: 24, Dst: 10 - k, Src: 1, Imm: n}, {}}})
	}
	return out
}

// wantLine looks at what Line tells of an instruction that stands alone, and of one that stands between others.
func wantLine(t *testing.T, c line) {
	t.Helper()
	around := slices.Concat([]api.Insn{{Op: 149}}, c.slots, []api.Insn{{Op: 149}})
	for at, l := range [][]api.Insn{c.slots, around} {
		s, n, e := asm.Line(l, at)
		if s != c.text || n != len(c.slots) || e != api.OK {
			t.Errorf("Line(%v, %d): %q, %d slots, error %d; want %q, %d slots", l, at, s, n, e, c.text, len(c.slots))
		}
	}
}

// wantNoLine looks whether Line refuses the place, and Text all of it.
func wantNoLine(t *testing.T, l []api.Insn, at int) {
	t.Helper()
	if s, n, e := asm.Line(l, at); s != "" || n != 0 || e != api.ErrAsm {
		t.Errorf("Line(%v, %d): %q, %d slots, error %d; want error %d", l, at, s, n, e, api.ErrAsm)
	}
	if s, e := asm.Text(l); s != "" || e != api.ErrAsm {
		t.Errorf("Text(%v): %q, error %d; want error %d", l, s, e, api.ErrAsm)
	}
}

// wantRead looks at what Read tells of s.
func wantRead(t *testing.T, s string, l []api.Insn) {
	t.Helper()
	got, n, e := asm.Read(s)
	if !slices.Equal(got, l) || n != 0 || e != api.OK {
		t.Errorf("Read(%q): %v, line %d, error %d; want %v", s, got, n, e, l)
	}
}

// wantWrong looks whether Read refuses s, and at the number that it tells beside the error.
func wantWrong(t *testing.T, s string, number int) {
	t.Helper()
	got, n, e := asm.Read(s)
	if len(got) != 0 || n != number || e != api.ErrAsm {
		t.Errorf("Read(%q): %v, line %d, error %d; want line %d, error %d", s, got, n, e, number, api.ErrAsm)
	}
}

// draws answers a function whose numbers look like chance and are the same at each run.
func draws() func() uint64 {
	seed := uint64(1)
	return func() uint64 {
		seed = seed*6364136223846793005 + 1442695040888963407
		n := seed
		n ^= n >> 32
		n *= 0x9E3779B97F4A7C15
		return n ^ n>>29
	}
}
