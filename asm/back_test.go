package asm_test

import (
	"slices"
	"strconv"
	"strings"
	"testing"

	"portcullis/api"
	"portcullis/asm"
)

// drawLine answers a line of the table with drawn numbers.
func drawLine(draw func() uint64, all []form) line {
	n := int(draw() % uint64(len(all)+8))
	d, s := int(draw()%11), int(draw()%11)
	imm := int(int32(draw()) >> (draw() % 32))
	switch {
	case n < len(all):
		off := int(int16(draw()) >> (draw() % 16))
		text, i := all[n].fill(d, s, off, imm)
		return line{text, []api.Insn{i}}
	case n%2 == 0:
		return line{"r" + strconv.Itoa(d) + " = map " + strconv.Itoa(imm) + " ll", []api.Insn{{Op: 24, Dst: d, Src: 1, Imm: imm}, {}}}
	}
	wide := draw() >> (draw() % 64)
	return line{"r" + strconv.Itoa(d) + " = " + strconv.FormatUint(wide, 10) + " ll", []api.Insn{
		{Op: 24, Dst: d, Imm: int(int32(uint32(wide)))},
		{Imm: int(int32(uint32(wide >> 32)))},
	}}
}

// drawLines answers n of them.
func drawLines(draw func() uint64, n int) []line {
	all := forms()
	out := make([]line, n)
	for k := range out {
		out[k] = drawLine(draw, all)
	}
	return out
}

// 4.3: Read of Text is the list again, for lists of any length.
func TestSlotsAndBack(t *testing.T) {
	draw := draws()
	for n := range 300 {
		want, l := all(drawLines(draw, n))
		s, e := asm.Text(l)
		if s != want || e != api.OK {
			t.Fatalf("Text(%v): %q, error %d; want %q", l, s, e, want)
		}
		wantRead(t, s, l)
		wantRead(t, strings.TrimSuffix(s, "\n"), l)
	}
}

// 4.3: Text of what Read tells is the text again, but for blanks around lines and lines that say nothing.
func TestTextAndBack(t *testing.T) {
	draw := draws()
	blanks := func() string { return strings.Repeat(" ", int(draw()%4)) }
	for n := range 300 {
		lines := drawLines(draw, n%40)
		want, slots := all(lines)
		var b strings.Builder
		for _, c := range lines {
			for range draw() % 3 {
				b.WriteString(blanks() + "\n")
			}
			b.WriteString(blanks() + c.text + blanks() + "\n")
		}
		b.WriteString(blanks())
		l, _, e := asm.Read(b.String())
		if e != api.OK || !slices.Equal(l, slots) {
			t.Fatalf("Read(%q): %v, error %d; want %v", b.String(), l, e, slots)
		}
		if s, e := asm.Text(l); s != want || e != api.OK {
			t.Errorf("Text of Read(%q): %q, error %d; want %q", b.String(), s, e, want)
		}
	}
}

// 4.2, 4.3: each line is told by Line as it was read, at the place where its slots begin.
func TestEachLineAndBack(t *testing.T) {
	lines := append(edges(), literals()...)
	s, _ := all(lines)
	l, _, e := asm.Read(s)
	if e != api.OK {
		t.Fatalf("error %d", e)
	}
	at := 0
	for _, c := range lines {
		got, n, e := asm.Line(l, at)
		if got != c.text || n != len(c.slots) || e != api.OK {
			t.Fatalf("Line at %d: %q, %d slots, error %d; want %q", at, got, n, e, c.text)
		}
		at += n
	}
	if at != len(l) {
		t.Errorf("%d slots; want %d", at, len(l))
	}
}

// 4.3: a text that is cut off anywhere is read as far as whole lines go, or not at all.
func TestTextCutOff(t *testing.T) {
	o := newOracle()
	s, _ := all(literals())
	for at := range len(s) + 1 {
		head, tail := "", s[:at]
		if k := strings.LastIndex(tail, "\n"); k >= 0 {
			head, tail = tail[:k+1], tail[k+1:]
		}
		whole, _, _ := asm.Read(head)
		if last, ok := o.slots(tail); ok {
			wantRead(t, s[:at], slices.Concat(whole, last))
		} else {
			wantWrong(t, s[:at], strings.Count(head, "\n")+1)
		}
	}
}

// R4, R5: the list that is handed in stays as it was, each answer is memory of its own, and the same is told each time.
func TestListsStayAsTheyWere(t *testing.T) {
	s, l := all(literals())
	room := append(slices.Clone(l), api.Insn{Op: 24}, api.Insn{Op: 7})
	kept := slices.Clone(room)
	for range 2 {
		asm.Text(room[:len(l)])
		for at := -1; at <= len(l); at++ {
			asm.Line(room[:len(l)], at)
		}
	}
	if !slices.Equal(room, kept) {
		t.Error("the list was changed")
	}
	first, _, _ := asm.Read(s)
	clear(first)
	wantRead(t, s, l)
}
