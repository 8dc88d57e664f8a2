package scalar_test

import (
	"math/big"
	"testing"

	"portcullis/alu"
	"portcullis/api"
	"portcullis/scalar"
	"portcullis/tnum"
)

// whole is n as a number that no sum or product goes beyond.
func whole(n uint64) *big.Int { return new(big.Int).SetUint64(n) }

// bounded is t within two whole numbers, if both lie from 0 to most; else t alone.
func bounded(t api.Tnum, least, greatest *big.Int, most uint64) api.Scalar {
	if least.Sign() < 0 || least.Cmp(greatest) > 0 || greatest.Cmp(whole(most)) > 0 {
		return api.Scalar{Tnum: t, Max: all}
	}
	return api.Scalar{Tnum: t, Min: least.Uint64(), Max: greatest.Uint64()}
}

// below is all numbers from 0 to n.
func below(n uint64) api.Scalar { return is(0, all, 0, n) }

// loose tells what an op makes of a and b, ahead of Tight.
func loose(op int, wide, signed bool, a, b api.Scalar) api.Scalar {
	if a.Tnum.Mask == 0 && b.Tnum.Mask == 0 {
		n, _ := alu.Bin(op, wide, signed, a.Tnum.Value, b.Tnum.Value)
		return one(n)
	}
	both, _ := tnum.Bin(op, a.Tnum, b.Tnum)
	switch op {
	case 0:
		return bounded(both, new(big.Int).Add(whole(a.Min), whole(b.Min)), new(big.Int).Add(whole(a.Max), whole(b.Max)), all)
	case 16:
		return bounded(both, new(big.Int).Sub(whole(a.Min), whole(b.Max)), new(big.Int).Sub(whole(a.Max), whole(b.Min)), all)
	case 32:
		if a.Max >= 1<<32 || b.Max >= 1<<32 {
			return is(both.Value, both.Mask, 0, all)
		}
		return bounded(both, new(big.Int).Mul(whole(a.Min), whole(b.Min)), new(big.Int).Mul(whole(a.Max), whole(b.Max)), all)
	case 64:
		return is(both.Value, both.Mask, max(a.Min, b.Min), all)
	case 80:
		return is(both.Value, both.Mask, 0, min(a.Max, b.Max))
	case 160:
		return is(both.Value, both.Mask, 0, all)
	case 128:
		return loose(16, wide, false, one(0), a)
	case 176:
		return b
	case 48, 144:
		return looseDivided(op, signed, a, b)
	}
	return looseShifted(op, wide, a, b)
}

// looseDivided is loose of 48 and 144.
func looseDivided(op int, signed bool, a, b api.Scalar) api.Scalar {
	switch c := b.Tnum.Value; {
	case signed:
		return unknown(64)
	case b.Tnum.Mask != 0 || c == 0:
		return below(a.Max)
	case op == 48:
		return is(0, all, a.Min/c, a.Max/c)
	case a.Max < c:
		return a
	default:
		return below(c - 1)
	}
}

// looseShifted is loose of 96, 112 and 192.
func looseShifted(op int, wide bool, a, b api.Scalar) api.Scalar {
	if b.Tnum.Mask != 0 {
		if op == 112 {
			return below(a.Max)
		}
		return unknown(64)
	}
	by, most := uint(b.Tnum.Value%64), uint64(all)
	if !wide {
		by, most = by%32, low32
	}
	t, _ := tnum.Shift(op, a.Tnum, int(by), wide)
	if op == 96 {
		return bounded(t, new(big.Int).Lsh(whole(a.Min), by), new(big.Int).Lsh(whole(a.Max), by), most)
	}
	if op == 192 && a.Max > most/2 {
		return is(t.Value, t.Mask, 0, all)
	}
	return is(t.Value, t.Mask, a.Min>>by, a.Max>>by)
}

// model tells Bin's answer.
func model(op int, wide, signed bool, a, b api.Scalar) api.Scalar {
	if wide {
		s, _ := narrowed(loose(op, wide, signed, a, b))
		return s
	}
	s, _ := narrowed(loose(op, wide, signed, cut(a, 32), cut(b, 32)))
	return cut(s, 32)
}

// signs goes over whether numbers are signed where op knows both.
func signs(op int) []bool {
	if op == 48 || op == 144 {
		return []bool{false, true}
	}
	return []bool{false}
}

// checkModel holds Bin of a and b, by each op, against the model.
func checkModel(t *testing.T, a, b api.Scalar) {
	t.Helper()
	for _, op := range binOps {
		for _, wide := range []bool{true, false} {
			for _, signed := range signs(op) {
				got, err := scalar.Bin(op, wide, signed, a, b)
				if due := model(op, wide, signed, a, b); got != due || err != api.OK {
					t.Errorf("Bin(%d, wide %v, signed %v, %#x, %#x): %#x, error %d; want %#x", op, wide, signed, a, b, got, err, due)
				}
			}
		}
	}
}

// 16.4: each op, of many scalars, is the model's.
func TestBinDrawn(t *testing.T) {
	draw := draws()
	for range 20000 {
		a, b := drawn(draw), drawn(draw)
		if draw()%4 == 0 {
			b = one(draw() >> (draw() % 64))
		}
		checkModel(t, a, b)
		if t.Failed() {
			return
		}
	}
}

// 16.4: likewise of scalars far from one another, at the edges of 32 and 64 bits.
func TestBinMixed(t *testing.T) {
	l := mixed()
	for _, a := range l {
		for _, b := range l {
			checkModel(t, a, b)
		}
		if t.Failed() {
			return
		}
	}
}

// 16.4: likewise of all scalars of three bits, also such as have no number.
func TestBinSmall(t *testing.T) {
	l := mayAll(small(3))
	for _, a := range l {
		for _, b := range l {
			checkModel(t, a, b)
		}
		if t.Failed() {
			return
		}
	}
}

// R1: every call ends, and none panics, whatever it is given; a Tnum that may not be is told by Tight and Check alone.
func TestCallsEnd(t *testing.T) {
	draw := draws()
	edge := []uint64{0, 1, 31, 32, 63, 64, top32, low32, top, all}
	for range 20000 {
		var n [8]uint64
		for i := range n {
			n[i] = edge[draw()%uint64(len(edge))]
			if draw()%3 == 0 {
				n[i] = draw() >> (draw() % 64)
			}
		}
		a, b := is(n[0], n[1], n[2], n[3]), is(n[4], n[5], n[6], n[7])
		for op := -16; op <= 256; op += 8 {
			for _, signed := range []bool{false, true} {
				_, wideErr := scalar.Bin(op, true, signed, a, b)
				_, err := scalar.Bin(op, false, signed, a, b)
				if _, due := alu.Bin(op, true, signed, 1, 1); wideErr != due || err != due {
					t.Fatalf("Bin(%d, signed %v, %#x, %#x): errors %d, %d; want %d", op, signed, a, b, wideErr, err, due)
				}
			}
		}
		for bits := -8; bits <= 72; bits += 8 {
			scalar.Cast(a, bits)
		}
		wantIn(t, a, b, a.Min <= b.Min && b.Max <= a.Max && b.Tnum.Mask&^a.Tnum.Mask == 0 && (a.Tnum.Value^b.Tnum.Value)&^a.Tnum.Mask == 0)
		wantHas(t, a, n[4], has(a, n[4]))
		checkTight(t, a)
	}
}
