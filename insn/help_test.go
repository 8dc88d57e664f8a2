package insn_test

import (
	"slices"
	"testing"

	"portcullis/api"
	"portcullis/insn"
)

// field is one of a slot's numbers, and how far it may go.
type field struct {
	name        string
	least, most int
	set         func(i *api.Insn, n int)
}

// fields has all of them, in the slot's order.
func fields() []field {
	return []field{
		{"Op", 0, 255, func(i *api.Insn, n int) { i.Op = n }},
		{"Dst", 0, 15, func(i *api.Insn, n int) { i.Dst = n }},
		{"Src", 0, 15, func(i *api.Insn, n int) { i.Src = n }},
		{"Off", -32768, 32767, func(i *api.Insn, n int) { i.Off = n }},
		{"Imm", -2147483648, 2147483647, func(i *api.Insn, n int) { i.Imm = n }},
	}
}

// encode answers the bytes of slots that must be taken.
func encode(t *testing.T, l []api.Insn) string {
	t.Helper()
	s, e := insn.Encode(l)
	if e != api.OK {
		t.Fatalf("Encode(%v): error %d", l, e)
	}
	return s
}

// decode answers the slots of bytes that must be taken.
func decode(t *testing.T, s string) []api.Insn {
	t.Helper()
	l, e := insn.Decode(s)
	if e != api.OK {
		t.Fatalf("Decode(%x): error %d", s, e)
	}
	return l
}

// wantRefused holds Encode's answer for slots of which one doesn't fit.
func wantRefused(t *testing.T, l []api.Insn) {
	t.Helper()
	if s, e := insn.Encode(l); s != "" || e != api.ErrInsn {
		t.Errorf("Encode(%v): %x, error %d; want no bytes, error %d", l, s, e, api.ErrInsn)
	}
}

// wantBothWays holds slots and bytes against each other.
func wantBothWays(t *testing.T, l []api.Insn, s string) {
	t.Helper()
	if got := encode(t, l); got != s {
		t.Errorf("Encode(%v): %x; want %x", l, got, s)
	}
	if got := decode(t, s); !slices.Equal(got, l) {
		t.Errorf("Decode(%x): %v; want %v", s, got, l)
	}
}

// draws answers a function whose numbers look like chance and are the same at each run.
func draws() func() uint64 {
	seed := uint64(1)
	return func() uint64 {
		seed = seed*6364136223846793005 + 1442695040888963407
		n := seed
		n ^= n >> 32
		n *= 0x9E3779B97F4A7C15
		return n ^ n>>29
	}
}

// drawSlot answers a slot that fits.
func drawSlot(draw func() uint64) api.Insn {
	n := draw()
	return api.Insn{
		Op:  int(uint8(n)),
		Dst: int(n >> 8 & 15),
		Src: int(n >> 12 & 15),
		Off: int(int16(n >> 16)),
		Imm: int(int32(n >> 32)),
	}
}
