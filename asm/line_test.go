package asm_test

import (
	"math"
	"slices"
	"strings"
	"testing"

	"portcullis/api"
	"portcullis/asm"
)

// literals has lines of each row of the table, written out with their slots.
func literals() []line {
	return []line{
		{"r1 = 5", []api.Insn{{Op: 183, Dst: 1, Imm: 5}}},
		{"w1 += -3", []api.Insn{{Op: 4, Dst: 1, Imm: -3}}},
		{"r0 -= 0", []api.Insn{{Op: 23}}},
		{"r10 s>>= r9", []api.Insn{{Op: 207, Dst: 10, Src: 9}}},
		{"w3 <<= 31", []api.Insn{{Op: 100, Dst: 3, Imm: 31}}},
		{"r2 ^= 2147483647", []api.Insn{{Op: 167, Dst: 2, Imm: 2147483647}}},
		{"w2 %= -2147483648", []api.Insn{{Op: 148, Dst: 2, Imm: -2147483648}}},
		{"r4 s/= r5", []api.Insn{{Op: 63, Dst: 4, Src: 5, Off: 1}}},
		{"w4 s%= 7", []api.Insn{{Op: 148, Dst: 4, Off: 1, Imm: 7}}},
		{"r4 = (s32)r5", []api.Insn{{Op: 191, Dst: 4, Src: 5, Off: 32}}},
		{"w4 = (s8)w5", []api.Insn{{Op: 188, Dst: 4, Src: 5, Off: 8}}},
		{"r3 = -r3", []api.Insn{{Op: 135, Dst: 3}}},
		{"w0 = -w0", []api.Insn{{Op: 132}}},
		{"r6 = le16 r6", []api.Insn{{Op: 212, Dst: 6, Imm: 16}}},
		{"r6 = be32 r6", []api.Insn{{Op: 220, Dst: 6, Imm: 32}}},
		{"r6 = bswap64 r6", []api.Insn{{Op: 215, Dst: 6, Imm: 64}}},
		{"r2 = 4294967303 ll", []api.Insn{{Op: 24, Dst: 2, Imm: 7}, {Imm: 1}}},
		{"r10 = 18446744073709551615 ll", []api.Insn{{Op: 24, Dst: 10, Imm: -1}, {Imm: -1}}},
		{"r0 = 0 ll", []api.Insn{{Op: 24}, {}}},
		{"r1 = map 3 ll", []api.Insn{{Op: 24, Dst: 1, Src: 1, Imm: 3}, {}}},
		{"r1 = map -3 ll", []api.Insn{{Op: 24, Dst: 1, Src: 1, Imm: -3}, {}}},
		{"r7 = *(u32 *)(r1 + 4)", []api.Insn{{Op: 97, Dst: 7, Src: 1, Off: 4}}},
		{"r7 = *(u64 *)(r1 - 32768)", []api.Insn{{Op: 121, Dst: 7, Src: 1, Off: -32768}}},
		{"r7 = *(s16 *)(r1 + 0)", []api.Insn{{Op: 137, Dst: 7, Src: 1}}},
		{"*(u8 *)(r10 - 1) = -1", []api.Insn{{Op: 114, Dst: 10, Off: -1, Imm: -1}}},
		{"*(u32 *)(r10 - 4) = r1", []api.Insn{{Op: 99, Dst: 10, Src: 1, Off: -4}}},
		{"lock *(u64 *)(r1 + 8) += r2", []api.Insn{{Op: 219, Dst: 1, Src: 2, Off: 8}}},
		{"lock *(u64 *)(r1 + 8) += r2 fetch", []api.Insn{{Op: 219, Dst: 1, Src: 2, Off: 8, Imm: 1}}},
		{"lock *(u32 *)(r1 - 8) ^= r2 fetch", []api.Insn{{Op: 195, Dst: 1, Src: 2, Off: -8, Imm: 161}}},
		{"lock *(u32 *)(r1 + 0) xchg r2", []api.Insn{{Op: 195, Dst: 1, Src: 2, Imm: 225}}},
		{"lock *(u64 *)(r1 + 0) cmpxchg r2", []api.Insn{{Op: 219, Dst: 1, Src: 2, Imm: 241}}},
		{"goto +0", []api.Insn{{Op: 5}}},
		{"goto -2", []api.Insn{{Op: 5, Off: -2}}},
		{"goto +32767", []api.Insn{{Op: 5, Off: 32767}}},
		{"if r1 == 0 goto +3", []api.Insn{{Op: 21, Dst: 1, Off: 3}}},
		{"if w1 s>= w2 goto +0", []api.Insn{{Op: 126, Dst: 1, Src: 2}}},
		{"if r9 & -1 goto -32768", []api.Insn{{Op: 69, Dst: 9, Off: -32768, Imm: -1}}},
		{"if w9 s<= 10 goto +1", []api.Insn{{Op: 214, Dst: 9, Off: 1, Imm: 10}}},
		{"call 12", []api.Insn{{Op: 133, Imm: 12}}},
		{"call -1", []api.Insn{{Op: 133, Imm: -1}}},
		{"exit", []api.Insn{{Op: 149}}},
	}
}

// 4.1: the line of each row of the table.
func TestLiteralLines(t *testing.T) {
	for _, c := range literals() {
		wantLine(t, c)
	}
}

// 4.1: each instruction of the table, with each register and with its numbers at their fields' edges.
func TestLinesAtEdges(t *testing.T) {
	for _, c := range edges() {
		wantLine(t, c)
	}
}

// lineBySlot answers the line that the forms have for a slot, and whether there is one.
func lineBySlot(byOp map[int][]form, i api.Insn) (string, bool) {
	if i.Dst < 0 || i.Dst > 10 || i.Src < 0 || i.Src > 10 || i.Off != int(int16(i.Off)) || i.Imm != int(int32(i.Imm)) {
		return "", false
	}
	for _, f := range byOp[i.Op] {
		if s, same := f.fill(i.Dst, i.Src, i.Off, i.Imm); same == i {
			return s, true
		}
	}
	return "", false
}

// 4.1: whatever the five fields are, there is a line if the table has one that says each of them that isn't 0.
func TestFieldsThatAreNotSaid(t *testing.T) {
	byOp := map[int][]form{}
	for _, f := range forms() {
		byOp[f.op] = append(byOp[f.op], f)
	}
	offs := []int{-32769, -32768, -1, 0, 1, 2, 8, 16, 32, 64, 32767, 32768, 65536}
	imms := []int{math.MinInt32 - 1, -1, 0, 1, 2, 8, 16, 32, 48, 63, 64, 65, 66, 80, 81, 160, 161, 224, 225, 226, 240, 241, 242, math.MaxInt32 + 1, 1 << 32}
	lines := 0
	for op := range 256 {
		for _, dst := range []int{0, 3, 10, 11, 15, 16, -1} {
			for _, src := range []int{0, 3, 10, 11, 15, 16, -1} {
				for _, off := range offs {
					for _, imm := range imms {
						i := api.Insn{Op: op, Dst: dst, Src: src, Off: off, Imm: imm}
						want, ok := lineBySlot(byOp, i)
						s, n, e := asm.Line([]api.Insn{i}, 0)
						switch {
						case ok && (s != want || n != 1 || e != api.OK):
							t.Fatalf("Line of %v: %q, %d slots, error %d; want %q", i, s, n, e, want)
						case !ok && (s != "" || n != 0 || e != api.ErrAsm):
							t.Fatalf("Line of %v: %q, %d slots, error %d; want error %d", i, s, n, e, api.ErrAsm)
						case ok:
							lines++
						}
					}
				}
			}
		}
	}
	if lines == 0 {
		t.Error("no lines at all")
	}
}

// 4.1: a line that has one field more than it says is none, whichever field it is.
func TestOneFieldMore(t *testing.T) {
	for _, i := range []api.Insn{
		{Op: 183, Dst: 1, Src: 1, Imm: 5}, {Op: 183, Dst: 1, Off: 1, Imm: 5}, {Op: 191, Dst: 1, Src: 2, Imm: 1}, {Op: 191, Dst: 1, Src: 2, Off: 1},
		{Op: 15, Dst: 1, Src: 2, Off: 8}, {Op: 7, Dst: 1, Off: 1}, {Op: 183, Dst: 1, Off: 8}, {Op: 188, Dst: 1, Off: 32}, {Op: 191, Off: 8, Imm: 1},
		{Op: 55, Off: 2}, {Op: 55, Off: -1}, {Op: 199, Off: 1}, {Op: 52, Src: 1, Off: 1, Imm: 1}, {Op: 60, Off: 1, Imm: 1},
		{Op: 135, Dst: 1, Src: 1}, {Op: 135, Dst: 1, Imm: 1}, {Op: 135, Off: 1}, {Op: 132, Src: 1}, {Op: 143}, {Op: 140},
		{Op: 212}, {Op: 212, Imm: 8}, {Op: 220, Src: 1, Imm: 16}, {Op: 215, Off: 1, Imm: 16}, {Op: 215, Imm: 17}, {Op: 223, Imm: 16},
		{Op: 97, Imm: 1}, {Op: 129, Imm: -1}, {Op: 153}, {Op: 98, Src: 1}, {Op: 99, Imm: 1}, {Op: 130}, {Op: 131},
		{Op: 195, Imm: 2}, {Op: 195, Imm: 16}, {Op: 195, Imm: 224}, {Op: 219, Imm: 240}, {Op: 219, Imm: -1}, {Op: 203}, {Op: 211}, {Op: 194}, {Op: 193},
		{Op: 5, Dst: 1}, {Op: 5, Src: 1}, {Op: 5, Imm: 1}, {Op: 6}, {Op: 13}, {Op: 21, Src: 1}, {Op: 29, Imm: 1},
		{Op: 133, Dst: 1}, {Op: 133, Src: 1}, {Op: 133, Off: 1}, {Op: 134}, {Op: 141}, {Op: 149, Dst: 1}, {Op: 149, Src: 1}, {Op: 149, Off: 1}, {Op: 149, Imm: 1}, {Op: 150}, {Op: 157},
	} {
		wantNoLine(t, []api.Insn{i}, 0)
	}
}

// 4.1: an Op that is none of the table's, and one past a byte whose lowest byte is one of the table's.
func TestOpsWithoutLine(t *testing.T) {
	for _, op := range []int{0, 1, 2, 3, 16, 25, 32, 33, 40, 48, 64, 65, 96, 128, 136, 208, 224, 225, 229, 239, 255} {
		wantNoLine(t, []api.Insn{{Op: op}, {}}, 0)
	}
	for _, op := range []int{-1, 256 + 149, 149 - 256, 256 + 24, 1<<32 + 183, math.MinInt, math.MaxInt} {
		wantNoLine(t, []api.Insn{{Op: op}, {}}, 0)
	}
}

// 4.1: no line has a register past 10.
func TestRegistersPastTen(t *testing.T) {
	for _, f := range forms() {
		for _, n := range []int{-1, 11, 12, 15, 16, math.MaxInt, math.MinInt} {
			_, i := f.fill(1, 2, 3, 4)
			i.Dst = n
			wantNoLine(t, []api.Insn{i}, 0)
			_, i = f.fill(1, 2, 3, 4)
			i.Src = n
			wantNoLine(t, []api.Insn{i}, 0)
		}
	}
	wantNoLine(t, []api.Insn{{Op: 24, Dst: 11}, {}}, 0)
	wantNoLine(t, []api.Insn{{Op: 24, Src: 1, Dst: 11}, {}}, 0)
}

// 4.1: of a number that has no room in its field there is no line.
func TestNumbersPastTheirFields(t *testing.T) {
	for _, f := range forms() {
		for _, n := range []int{-32769, 32768, 65536, -65536, math.MinInt, math.MaxInt} {
			_, i := f.fill(1, 2, 3, 4)
			i.Off = n
			wantNoLine(t, []api.Insn{i}, 0)
		}
		for _, n := range []int{math.MinInt32 - 1, math.MaxInt32 + 1, 1 << 32, -1 << 32, math.MinInt, math.MaxInt} {
			_, i := f.fill(1, 2, 3, 4)
			i.Imm = n
			wantNoLine(t, []api.Insn{i}, 0)
		}
	}
	wantNoLine(t, []api.Insn{{Op: 24, Imm: 1 << 31}, {}}, 0)
	wantNoLine(t, []api.Insn{{Op: 24}, {Imm: 1 << 31}}, 0)
	wantNoLine(t, []api.Insn{{Op: 24, Imm: 1<<32 + 1}, {}}, 0)
	wantNoLine(t, []api.Insn{{Op: 24}, {Imm: -1<<31 - 1}}, 0)
	wantNoLine(t, []api.Insn{{Op: 24, Src: 1, Imm: 1 << 31}, {}}, 0)
}

// 4.1: a wide instruction needs a second slot that has nothing but a number's upper half.
func TestSecondSlots(t *testing.T) {
	for _, src := range []int{0, 1} {
		first := api.Insn{Op: 24, Dst: 1, Src: src, Imm: 7}
		wantNoLine(t, []api.Insn{first}, 0)
		wantNoLine(t, []api.Insn{{Op: 149}, first}, 1)
		for _, second := range []api.Insn{{Op: 1}, {Op: 24}, {Op: 149}, {Op: 256}, {Dst: 1}, {Src: 1}, {Off: 1}, {Off: -1}, {Imm: 1 << 40}} {
			wantNoLine(t, []api.Insn{first, second}, 0)
			wantNoLine(t, []api.Insn{first, second, {Op: 149}}, 0)
		}
	}
	for _, first := range []api.Insn{{Op: 24, Off: 1}, {Op: 24, Src: 1, Off: 1}, {Op: 24, Src: 2}, {Op: 24, Src: 10}} {
		wantNoLine(t, []api.Insn{first, {}}, 0)
	}
	for _, upper := range []int{1, -1, math.MinInt32} {
		wantLine(t, line{"r1 = " + map[int]string{1: "4294967303", -1: "18446744069414584327", math.MinInt32: "9223372036854775815"}[upper] + " ll", []api.Insn{{Op: 24, Dst: 1, Imm: 7}, {Imm: upper}}})
		wantNoLine(t, []api.Insn{{Op: 24, Dst: 1, Src: 1, Imm: 7}, {Imm: upper}}, 0)
	}
}

// 4.1: the place of a second slot is one of the list, but has no line; Text passes it over.
func TestPlaceOfASecondSlot(t *testing.T) {
	for _, l := range [][]api.Insn{{{Op: 24, Imm: 7}, {Imm: 1}}, {{Op: 24, Imm: 7}, {}}, {{Op: 24, Src: 1}, {}, {Op: 149}}} {
		if s, n, e := asm.Line(l, 1); s != "" || n != 0 || e != api.ErrAsm {
			t.Errorf("Line(%v, 1): %q, %d slots, error %d", l, s, n, e)
		}
		if _, e := asm.Text(l); e != api.OK {
			t.Errorf("Text(%v): error %d", l, e)
		}
	}
}

// 4.1: a place that is none of the list's.
func TestPlacesOfNoList(t *testing.T) {
	for _, l := range [][]api.Insn{nil, {}, {{Op: 149}}, {{Op: 24}, {}}, {{Op: 24}}, {{Op: 0}}} {
		room := slices.Grow(slices.Clone(l), 4)
		for _, at := range []int{-1, len(l), len(l) + 1, 1 << 32, math.MinInt, math.MaxInt} {
			if s, n, e := asm.Line(room, at); s != "" || n != 0 || e != api.ErrArg {
				t.Errorf("Line(%v, %d): %q, %d slots, error %d; want error %d", l, at, s, n, e, api.ErrArg)
			}
		}
	}
}

// 4.1: what lies behind a list's end is no second slot.
func TestBehindTheEnd(t *testing.T) {
	whole := []api.Insn{{Op: 24, Dst: 1, Imm: 7}, {Imm: 1}}
	wantNoLine(t, whole[:1], 0)
}

// 4.1: Text of no slots, of one, of several.
func TestTexts(t *testing.T) {
	for _, l := range [][]api.Insn{nil, {}} {
		if s, e := asm.Text(l); s != "" || e != api.OK {
			t.Errorf("Text of no slots: %q, error %d", s, e)
		}
	}
	for _, c := range literals() {
		if s, e := asm.Text(c.slots); s != c.text+"\n" || e != api.OK {
			t.Errorf("Text(%v): %q, error %d; want %q", c.slots, s, e, c.text)
		}
	}
	want, l := all(literals())
	if s, e := asm.Text(l); s != want || e != api.OK {
		t.Errorf("Text(%v): %q, error %d; want %q", l, s, e, want)
	}
}

// 4.1: one instruction without a line is enough for Text to tell none, wherever it stands.
func TestTextsWithoutOneLine(t *testing.T) {
	for _, wrong := range []api.Insn{{}, {Op: 149, Imm: 1}, {Op: 24, Src: 2}, {Op: 183, Dst: 11}} {
		for at := range 4 {
			l := []api.Insn{{Op: 183}, {Op: 5, Off: -1}, {Op: 149}}
			wantNoLine(t, slices.Insert(l, at, wrong), at)
		}
	}
	wantNoLine(t, []api.Insn{{Op: 24}, {}, {}, {Op: 149}}, 2)
}

// 4.1: the list may be longer than a program.
func TestManyLines(t *testing.T) {
	l := make([]api.Insn, 3*api.MaxInsns)
	for k := range l {
		l[k] = api.Insn{Op: 133, Imm: 7}
	}
	if s, e := asm.Text(l); s != strings.Repeat("call 7\n", len(l)) || e != api.OK {
		t.Errorf("Text of %d slots: %d bytes, error %d", len(l), len(s), e)
	}
}

// all answers the lines one behind the other, and their slots.
func all(lines []line) (string, []api.Insn) {
	var b strings.Builder
	var l []api.Insn
	for _, c := range lines {
		b.WriteString(c.text)
		b.WriteByte('\n')
		l = append(l, c.slots...)
	}
	return b.String(), l
}
