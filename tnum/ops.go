package tnum

import "portcullis/api"

// The ops of Bin and of Shift, as alu has them.
const (
	opAdd = 0
	opSub = 16
	opMul = 32
	opOr  = 64
	opAnd = 80
	opShl = 96
	opShr = 112
	opXor = 160
	opSar = 192
)

// known is the tnum at an operation's left.
type known api.Tnum

// partly is the tnum of value's bits where unknown has none.
func partly(value, unknown uint64) known { return known{Value: value &^ unknown, Mask: unknown} }

// operation answers what op does with a at its left; nil, if there is no such op.
func (a known) operation(op int) func(b known) known {
	switch op {
	case opAdd:
		return a.add
	case opSub:
		return a.less
	case opMul:
		return a.times
	case opOr:
		return a.or
	case opAnd:
		return a.and
	case opXor:
		return a.xor
	}
	return nil
}

func (a known) add(b known) known {
	sum := a.Value + b.Value
	// The least sum and the greatest one differ wherever a carry may come or not.
	carried := (sum + (a.Mask + b.Mask)) ^ sum
	return partly(sum, carried|a.Mask|b.Mask)
}

func (a known) less(b known) known {
	rest := a.Value - b.Value
	// Likewise the greatest and the least difference, wherever a borrow may come or not.
	borrowed := (rest + a.Mask) ^ (rest - b.Mask)
	return partly(rest, borrowed|a.Mask|b.Mask)
}

func (a known) and(b known) known {
	ones := a.Value & b.Value
	may := (a.Value | a.Mask) & (b.Value | b.Mask)
	return known{Value: ones, Mask: may &^ ones}
}

func (a known) or(b known) known {
	ones := a.Value | b.Value
	return known{Value: ones, Mask: (a.Mask | b.Mask) &^ ones}
}

func (a known) xor(b known) known { return partly(a.Value^b.Value, a.Mask|b.Mask) }

// times adds up what each bit of a that is or may be 1 makes unknown, apart from the product of the known bits.
func (a known) times(b known) known {
	product, unknown := known{Value: a.Value * b.Value}, known{}
	for a != (known{}) {
		if a.Value&1 == 1 {
			unknown = unknown.add(known{Mask: b.Mask})
		} else if a.Mask&1 == 1 {
			unknown = unknown.add(known{Mask: b.Value | b.Mask})
		}
		a = known{Value: a.Value >> 1, Mask: a.Mask >> 1}
		b = known{Value: b.Value << 1, Mask: b.Mask << 1}
	}
	return product.add(unknown)
}

// shift is by how many bits numbers are shifted: of 64 bits (wide), or of their lower 32.
type shift struct {
	by   uint
	wide bool
}

// operation answers what op does with a number; nil, if there is no such op.
func (s shift) operation(op int) func(n uint64) uint64 {
	switch op {
	case opShl:
		return s.left
	case opShr:
		return s.right
	case opSar:
		return s.rightWithSign
	}
	return nil
}

func (s shift) left(n uint64) uint64 {
	if s.wide {
		return n << s.by
	}
	return uint64(uint32(n) << s.by)
}

func (s shift) right(n uint64) uint64 {
	if s.wide {
		return n >> s.by
	}
	return uint64(uint32(n) >> s.by)
}

func (s shift) rightWithSign(n uint64) uint64 {
	if s.wide {
		return uint64(int64(n) >> s.by)
	}
	return uint64(uint32(int32(n) >> s.by))
}
