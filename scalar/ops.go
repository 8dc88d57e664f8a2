package scalar

import (
	"portcullis/alu"
	"portcullis/api"
	"portcullis/tnum"
)

// The ops of Bin, as alu has them.
const (
	opAdd  = 0
	opSub  = 16
	opMul  = 32
	opDiv  = 48
	opOr   = 64
	opAnd  = 80
	opShl  = 96
	opShr  = 112
	opNeg  = 128
	opRest = 144
	opXor  = 160
	opMov  = 176
	opSar  = 192
)

// operation is an op that alu knows, and how it is done.
type operation struct {
	op           int
	wide, signed bool
}

// answer is what the operation makes of a and b, not tight yet, and not cut to 32 bits.
func (o operation) answer(a, b api.Scalar) api.Scalar {
	n, one := Only(a)
	c, fixed := Only(b)
	if one && fixed {
		c, _ = alu.Bin(o.op, o.wide, o.signed, n, c)
		return Const(c)
	}
	switch o.op {
	case opShl, opShr, opSar:
		if fixed {
			return o.shifted(a, c&o.places())
		}
		return o.shiftedByAny(a)
	case opDiv, opRest:
		if fixed && c > 0 && !o.signed {
			return o.divided(a, c)
		}
		return o.dividedByAny(a)
	case opNeg:
		return put(opSub, Const(0), a)
	case opMov:
		return b
	}
	return put(o.op, a, b)
}

// put is what an op that tnum knows makes of a and b.
func put(op int, a, b api.Scalar) api.Scalar {
	t, _ := tnum.Bin(op, a.Tnum, b.Tnum)
	return within(t, reach(op, bounds(a), bounds(b)))
}

// reach is where the answers lie that such an op makes of a number in a and one in b.
func reach(op int, a, b span) span {
	switch {
	case op == opAdd && a.max <= all-b.max:
		return a.both(number.plus, b)
	case op == opSub && a.min >= b.max:
		return a.both(number.less, b.turned())
	case op == opMul && a.max <= low && b.max <= low:
		return a.both(number.times, b)
	case op == opAnd:
		return span{max: min(a.max, b.max)}
	case op == opOr:
		return span{max(a.min, b.min), all}
	}
	return full()
}

// greatest is the greatest number that the operation may make.
func (o operation) greatest() number {
	if o.wide {
		return all
	}
	return low
}

// places is the bits of a count that a shift goes by.
func (o operation) places() uint64 {
	if o.wide {
		return 63
	}
	return 31
}

// shifted is a shifted by a count that is known, and is below 64 (not wide: 32).
func (o operation) shifted(a api.Scalar, by uint64) api.Scalar {
	t, _ := tnum.Shift(o.op, a.Tnum, int(by), o.wide)
	s, most := bounds(a), o.greatest()
	switch {
	case o.op == opShl && s.max <= most.right(number(by)): // no bit of a bound is lost
		return within(t, s.both(number.left, alone(by)))
	case o.op == opShr, o.op == opSar && s.max <= most.right(1): // nor is a sign drawn in
		return within(t, s.both(number.right, alone(by)))
	}
	return within(t, full())
}

// shiftedByAny is a shifted by a count that isn't known.
func (o operation) shiftedByAny(a api.Scalar) api.Scalar {
	if o.op == opShr {
		return upTo(a.Max)
	}
	return Unknown()
}

// divided is a divided by c, or what that leaves; c is not 0, and no sign plays a part.
func (o operation) divided(a api.Scalar, c uint64) api.Scalar {
	if o.op == opDiv {
		return within(tnum.Unknown(), bounds(a).both(number.over, alone(c)))
	}
	if a.Max < c {
		return a
	}
	return upTo(c - 1)
}

// dividedByAny is a divided by what isn't known or is 0, or what that leaves; neither goes beyond a, but where signs play a part.
func (o operation) dividedByAny(a api.Scalar) api.Scalar {
	if o.signed {
		return Unknown()
	}
	return upTo(a.Max)
}

// upTo is the scalar of all numbers from 0 to n, not tight yet.
func upTo(n uint64) api.Scalar { return within(tnum.Unknown(), span{max: number(n)}) }
