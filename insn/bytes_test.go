package insn_test

import (
	"math"
	"slices"
	"strings"
	"testing"

	"portcullis/api"
	"portcullis/insn"
)

// 3.1: a slot's bytes: Op, Src above Dst, Off and Imm with the little end first.
func TestSlotBytes(t *testing.T) {
	for _, c := range []struct {
		i api.Insn
		s string
	}{
		{api.Insn{}, "\x00\x00\x00\x00\x00\x00\x00\x00"},
		{api.Insn{Op: 183, Dst: 1, Imm: 5}, "\xb7\x01\x00\x00\x05\x00\x00\x00"},
		{api.Insn{Op: 97, Dst: 2, Src: 1, Off: 4}, "\x61\x12\x04\x00\x00\x00\x00\x00"},
		{api.Insn{Op: 1}, "\x01\x00\x00\x00\x00\x00\x00\x00"},
		{api.Insn{Op: 128}, "\x80\x00\x00\x00\x00\x00\x00\x00"},
		{api.Insn{Op: 255}, "\xff\x00\x00\x00\x00\x00\x00\x00"},
		{api.Insn{Dst: 1}, "\x00\x01\x00\x00\x00\x00\x00\x00"},
		{api.Insn{Dst: 8}, "\x00\x08\x00\x00\x00\x00\x00\x00"},
		{api.Insn{Dst: 15}, "\x00\x0f\x00\x00\x00\x00\x00\x00"},
		{api.Insn{Src: 1}, "\x00\x10\x00\x00\x00\x00\x00\x00"},
		{api.Insn{Src: 8}, "\x00\x80\x00\x00\x00\x00\x00\x00"},
		{api.Insn{Src: 15}, "\x00\xf0\x00\x00\x00\x00\x00\x00"},
		{api.Insn{Dst: 10, Src: 5}, "\x00\x5a\x00\x00\x00\x00\x00\x00"},
		{api.Insn{Off: 1}, "\x00\x00\x01\x00\x00\x00\x00\x00"},
		{api.Insn{Off: 128}, "\x00\x00\x80\x00\x00\x00\x00\x00"},
		{api.Insn{Off: 0x1234}, "\x00\x00\x34\x12\x00\x00\x00\x00"},
		{api.Insn{Off: 32767}, "\x00\x00\xff\x7f\x00\x00\x00\x00"},
		{api.Insn{Off: -1}, "\x00\x00\xff\xff\x00\x00\x00\x00"},
		{api.Insn{Off: -4}, "\x00\x00\xfc\xff\x00\x00\x00\x00"},
		{api.Insn{Off: -256}, "\x00\x00\x00\xff\x00\x00\x00\x00"},
		{api.Insn{Off: -32768}, "\x00\x00\x00\x80\x00\x00\x00\x00"},
		{api.Insn{Imm: 1}, "\x00\x00\x00\x00\x01\x00\x00\x00"},
		{api.Insn{Imm: 128}, "\x00\x00\x00\x00\x80\x00\x00\x00"},
		{api.Insn{Imm: 32768}, "\x00\x00\x00\x00\x00\x80\x00\x00"},
		{api.Insn{Imm: 0x12345678}, "\x00\x00\x00\x00\x78\x56\x34\x12"},
		{api.Insn{Imm: 2147483647}, "\x00\x00\x00\x00\xff\xff\xff\x7f"},
		{api.Insn{Imm: -1}, "\x00\x00\x00\x00\xff\xff\xff\xff"},
		{api.Insn{Imm: -3}, "\x00\x00\x00\x00\xfd\xff\xff\xff"},
		{api.Insn{Imm: -65536}, "\x00\x00\x00\x00\x00\x00\xff\xff"},
		{api.Insn{Imm: -2147483648}, "\x00\x00\x00\x00\x00\x00\x00\x80"},
		{api.Insn{Op: 0xA5, Dst: 3, Src: 12, Off: -2, Imm: -0x12345678}, "\xa5\xc3\xfe\xff\x88\xa9\xcb\xed"},
		{api.Insn{Op: 255, Dst: 15, Src: 15, Off: -1, Imm: -1}, "\xff\xff\xff\xff\xff\xff\xff\xff"},
		{api.Insn{Op: 255, Dst: 15, Src: 15, Off: 32767, Imm: 2147483647}, "\xff\xff\xff\x7f\xff\xff\xff\x7f"},
		{api.Insn{Off: -32768, Imm: -2147483648}, "\x00\x00\x00\x80\x00\x00\x00\x80"},
	} {
		wantBothWays(t, []api.Insn{c.i}, c.s)
	}
}

// 3.1: every byte of a slot at 0 and at 255, among bytes of the other kind.
func TestByteEdges(t *testing.T) {
	zeros := api.Insn{}
	ones := api.Insn{Op: 255, Dst: 15, Src: 15, Off: -1, Imm: -1}
	for at, c := range []struct{ one, zero api.Insn }{ // byte at is 255 among zeros, and 0 among 255s
		{api.Insn{Op: 255}, api.Insn{Op: 0, Dst: 15, Src: 15, Off: -1, Imm: -1}},
		{api.Insn{Dst: 15, Src: 15}, api.Insn{Op: 255, Off: -1, Imm: -1}},
		{api.Insn{Off: 255}, api.Insn{Op: 255, Dst: 15, Src: 15, Off: -256, Imm: -1}},
		{api.Insn{Off: -256}, api.Insn{Op: 255, Dst: 15, Src: 15, Off: 255, Imm: -1}},
		{api.Insn{Imm: 255}, api.Insn{Op: 255, Dst: 15, Src: 15, Off: -1, Imm: -256}},
		{api.Insn{Imm: 255 << 8}, api.Insn{Op: 255, Dst: 15, Src: 15, Off: -1, Imm: -1 - 255<<8}},
		{api.Insn{Imm: 255 << 16}, api.Insn{Op: 255, Dst: 15, Src: 15, Off: -1, Imm: -1 - 255<<16}},
		{api.Insn{Imm: -1 << 24}, api.Insn{Op: 255, Dst: 15, Src: 15, Off: -1, Imm: 1<<24 - 1}},
	} {
		one := strings.Repeat("\x00", at) + "\xff" + strings.Repeat("\x00", 7-at)
		zero := strings.Repeat("\xff", at) + "\x00" + strings.Repeat("\xff", 7-at)
		wantBothWays(t, []api.Insn{c.one}, one)
		wantBothWays(t, []api.Insn{c.zero}, zero)
		wantBothWays(t, []api.Insn{zeros, c.one, ones}, strings.Repeat("\x00", 8)+one+strings.Repeat("\xff", 8))
		wantBothWays(t, []api.Insn{ones, c.zero, zeros}, strings.Repeat("\xff", 8)+zero+strings.Repeat("\x00", 8))
	}
}

// 3.1: no slots are no bytes, the other way round, too.
func TestNoSlots(t *testing.T) {
	for _, l := range [][]api.Insn{nil, {}} {
		if s, e := insn.Encode(l); s != "" || e != api.OK {
			t.Errorf("Encode of no slots: %x, error %d", s, e)
		}
	}
	if l, e := insn.Decode(""); len(l) != 0 || e != api.OK {
		t.Errorf("Decode of no bytes: %v, error %d", l, e)
	}
}

// 3.1: several slots stand one behind the other, whatever they are.
func TestSeveralSlots(t *testing.T) {
	wantBothWays(t, []api.Insn{
		{Op: 183, Dst: 1, Imm: 5},
		{Op: 97, Dst: 2, Src: 1, Off: -4},
	}, "\xb7\x01\x00\x00\x05\x00\x00\x00"+"\x61\x12\xfc\xff\x00\x00\x00\x00")
	wantBothWays(t, []api.Insn{
		{Op: 24, Dst: 9, Src: 1, Imm: -2},
		{Imm: 3},
		{},
		{Op: 5, Off: -2},
		{Op: 5, Off: -2},
		{Op: 149},
	}, "\x18\x19\x00\x00\xfe\xff\xff\xff"+"\x00\x00\x00\x00\x03\x00\x00\x00"+"\x00\x00\x00\x00\x00\x00\x00\x00"+
		"\x05\x00\xfe\xff\x00\x00\x00\x00"+"\x05\x00\xfe\xff\x00\x00\x00\x00"+"\x95\x00\x00\x00\x00\x00\x00\x00")
}

// 3.1: there may be any count of slots, more than a program has, too.
func TestManySlots(t *testing.T) {
	for _, n := range []int{255, 256, 257, api.MaxInsns - 1, api.MaxInsns, api.MaxInsns + 1, 1<<16 + 1} {
		l := make([]api.Insn, n)
		for k := range l {
			l[k] = api.Insn{Op: 183, Dst: k % 11, Imm: k}
		}
		s := encode(t, l)
		if len(s) != 8*n {
			t.Fatalf("Encode of %d slots: %d bytes", n, len(s))
		}
		if got := decode(t, s); !slices.Equal(got, l) {
			t.Errorf("Decode of %d slots tells others", n)
		}
	}
}

// 3.1: each field at its least and its greatest number, in the first slot, in the last one and in both.
func TestFieldEdges(t *testing.T) {
	for _, f := range fields() {
		for _, n := range []int{f.least, f.least + 1, f.most - 1, f.most} {
			for places := 1; places < 8; places++ {
				l := make([]api.Insn, 3)
				for k := range l {
					if places>>k&1 == 1 {
						f.set(&l[k], n)
					}
				}
				if got := decode(t, encode(t, l)); !slices.Equal(got, l) {
					t.Errorf("%s %d: %v; want %v", f.name, n, got, l)
				}
			}
		}
	}
}

// 3.1: a number past its field's edges, or whose lowest bits alone would fit, is refused, whichever slots have it.
func TestFieldsPast(t *testing.T) {
	for _, f := range fields() {
		span := f.most - f.least + 1
		for _, n := range []int{f.least - 1, f.most + 1, f.least - span, f.most + span, -1<<32 + f.least, 1<<32 + f.most, math.MinInt, math.MaxInt} {
			wrong := api.Insn{}
			f.set(&wrong, n)
			wantRefused(t, []api.Insn{wrong})
			for places := 1; places < 8; places++ {
				l := []api.Insn{{Op: 183, Dst: 1, Imm: 5}, {Op: 97, Dst: 2, Src: 1, Off: -4}, {Op: 149}}
				for k := range l {
					if places>>k&1 == 1 {
						f.set(&l[k], n)
					}
				}
				wantRefused(t, l)
			}
		}
	}
}

// 3.1: two fields that don't fit are refused as one is.
func TestTwoFieldsPast(t *testing.T) {
	for _, f := range fields() {
		for _, g := range fields() {
			for _, n := range []int{f.least - 1, f.most + 1} {
				for _, m := range []int{g.least - 1, g.most + 1} {
					a, b := api.Insn{}, api.Insn{}
					f.set(&a, n)
					g.set(&b, m)
					wantRefused(t, []api.Insn{a, b})
					g.set(&a, m)
					wantRefused(t, []api.Insn{a})
				}
			}
		}
	}
}

// 3.1: one wrong slot is found at the end of many.
func TestLastOfManyPast(t *testing.T) {
	l := make([]api.Insn, api.MaxInsns+1)
	l[len(l)-1].Dst = 16
	wantRefused(t, l)
}

// 3.1: Decode takes lengths that 8 divides, and no others; beside the error there are no slots.
func TestDecodeLengths(t *testing.T) {
	for n := range 66 {
		l, e := insn.Decode(strings.Repeat("\x07", n))
		switch {
		case n%8 != 0 && (len(l) != 0 || e != api.ErrInsn):
			t.Errorf("Decode of %d bytes: %v, error %d; want no slots, error %d", n, l, e, api.ErrInsn)
		case n%8 == 0 && (len(l) != n/8 || e != api.OK):
			t.Errorf("Decode of %d bytes: %d slots, error %d", n, len(l), e)
		}
	}
}

// 3.1: every length that 8 doesn't divide is refused behind many whole slots, too.
func TestDecodeLengthsOfMany(t *testing.T) {
	s := strings.Repeat("\x95\x00\x00\x00\x00\x00\x00\x00", api.MaxInsns+1)
	for cut := 1; cut < 8; cut++ {
		if l, e := insn.Decode(s[cut:]); len(l) != 0 || e != api.ErrInsn {
			t.Errorf("Decode of %d bytes: %d slots, error %d", len(s)-cut, len(l), e)
		}
	}
}

// R4: Encode changes no slot, not those behind the list's end either, and what it told stays.
func TestEncodeKeepsNothing(t *testing.T) {
	all := []api.Insn{{Op: 183, Dst: 1, Imm: -5}, {Op: 97, Dst: 2, Src: 1, Off: -4}, {Op: 999, Dst: -1, Off: 1 << 20}}
	before := slices.Clone(all)
	s := encode(t, all[:2])
	wantRefused(t, all)
	if !slices.Equal(all, before) {
		t.Errorf("Encode made %v of %v", all, before)
	}
	all[0] = api.Insn{Op: 149}
	if s != "\xb7\x01\x00\x00\xfb\xff\xff\xff\x61\x12\xfc\xff\x00\x00\x00\x00" {
		t.Errorf("what Encode told became %x", s)
	}
}

// R4, R5: what Decode told is new memory, and the same at each call, also behind a call that was refused.
func TestDecodeIsNew(t *testing.T) {
	const s = "\xb7\x01\x00\x00\x05\x00\x00\x00\x95\x00\x00\x00\x00\x00\x00\x00"
	want := []api.Insn{{Op: 183, Dst: 1, Imm: 5}, {Op: 149}}
	a := decode(t, s)
	a[0], a[1] = api.Insn{Op: 1}, api.Insn{Op: 2}
	if _, e := insn.Decode(s[1:]); e != api.ErrInsn {
		t.Errorf("Decode: error %d", e)
	}
	if b := decode(t, s); !slices.Equal(b, want) {
		t.Errorf("Decode, once again: %v; want %v", b, want)
	}
	if a[0] != (api.Insn{Op: 1}) || a[1] != (api.Insn{Op: 2}) {
		t.Errorf("a later Decode made %v of an answer", a)
	}
}
