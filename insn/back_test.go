package insn_test

import (
	"encoding/binary"
	"slices"
	"strings"
	"testing"

	"portcullis/api"
	"portcullis/insn"
)

// 3.3: lists of slots are told again as they were.
func TestSlotsAndBack(t *testing.T) {
	draw := draws()
	for n := range 400 {
		l := make([]api.Insn, n%23)
		for k := range l {
			l[k] = drawSlot(draw)
		}
		s := encode(t, l)
		if len(s) != 8*len(l) {
			t.Errorf("Encode(%v): %d bytes", l, len(s))
		}
		if got := decode(t, s); !slices.Equal(got, l) {
			t.Errorf("Decode(%x): %v; want %v", s, got, l)
		}
	}
}

// 3.3: each number that a field may have is told again; of Imm, those by each bit.
func TestFieldsAndBack(t *testing.T) {
	var l []api.Insn
	for n := range 256 {
		l = append(l, api.Insn{Op: n}, api.Insn{Dst: n % 16, Src: n / 16})
	}
	for n := -32768; n <= 32767; n++ {
		l = append(l, api.Insn{Off: n})
	}
	for bit := range 31 {
		l = append(l, api.Insn{Imm: 1 << bit}, api.Insn{Imm: -1 << bit}, api.Insn{Imm: 1<<bit - 1}, api.Insn{Imm: -1 - 1<<bit})
	}
	if got := decode(t, encode(t, l)); !slices.Equal(got, l) {
		t.Error("Decode of Encode tells other slots")
	}
}

// 3.3: bytes are told again as they were, whatever they are: each byte of a slot at each of its values, and drawn ones.
func TestBytesAndBack(t *testing.T) {
	var b strings.Builder
	for at := range 8 {
		for n := range 256 {
			b.WriteString(strings.Repeat("\x5a", at))
			b.WriteByte(byte(n))
			b.WriteString(strings.Repeat("\x5a", 7-at))
		}
	}
	draw := draws()
	for range 8 * 4000 {
		b.WriteByte(byte(draw()))
	}
	s := b.String()
	for at := 0; at < len(s); at += 8 {
		slot := s[at : at+8]
		if got := encode(t, decode(t, slot)); got != slot {
			t.Errorf("Encode of Decode(%x): %x", slot, got)
		}
	}
	if encode(t, decode(t, s)) != s {
		t.Error("Encode of Decode of all of them tells others")
	}
}

// 3.3: Imm64 of Lay64 is the number again, and Encode takes what Lay64 made: it is the number's bytes, little end first.
func TestNumbersAndBack(t *testing.T) {
	draw := draws()
	numbers := []uint64{0, 1<<64 - 1}
	for bit := range 64 {
		numbers = append(numbers, 1<<bit, 1<<bit-1, 1<<bit+1, -(1 << bit), ^uint64(1<<bit))
	}
	for range 4000 {
		numbers = append(numbers, draw(), draw()>>(draw()%64))
	}
	for k, n := range numbers {
		dst := k % 16
		wide := insn.Lay64(dst, n)
		if got := insn.Imm64(wide[0], wide[1]); got != n {
			t.Errorf("Imm64 of Lay64(%d, %#x): %#x", dst, n, got)
		}
		if !insn.Wide(wide[0]) || insn.Wide(wide[1]) {
			t.Errorf("Lay64(%d, %#x): %v isn't one wide instruction", dst, n, wide)
		}
		s := encode(t, wide[:])
		if got := decode(t, s); !slices.Equal(got, wide[:]) {
			t.Errorf("Decode(%x): %v; want %v", s, got, wide)
		}
		want := binary.LittleEndian.AppendUint32([]byte{24, byte(dst), 0, 0}, uint32(n))
		want = binary.LittleEndian.AppendUint32(append(want, 0, 0, 0, 0), uint32(n>>32))
		if s != string(want) {
			t.Errorf("Encode of Lay64(%d, %#x): %x; want %x", dst, n, s, want)
		}
	}
}
