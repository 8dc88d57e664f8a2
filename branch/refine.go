package branch

import (
	"portcullis/api"
	"portcullis/scalar"
)

// never is the answer of a test that is true of no numbers.
func never() (api.Scalar, api.Scalar, bool) { return api.Scalar{}, api.Scalar{}, false }

// tight is both with bounds and bits that have narrowed one another; never, if they leave nothing of one.
func tight(a, b api.Scalar) (api.Scalar, api.Scalar, bool) {
	a, some := scalar.Tight(a)
	b, other := scalar.Tight(b)
	if !some || !other {
		return never()
	}
	return a, b, true
}

// learned is t, of which these bits are told to be 1 and those 0; none of them is known otherwise.
func learned(t api.Tnum, ones, zeros uint64) api.Tnum {
	return api.Tnum{Value: t.Value | ones, Mask: t.Mask &^ (ones | zeros)}
}

// equal is what a and b are, if they are the same: all that is known of either is so of both.
func equal(a, b api.Scalar) (api.Scalar, api.Scalar, bool) {
	if (a.Tnum.Value^b.Tnum.Value)&^(a.Tnum.Mask|b.Tnum.Mask) != 0 {
		return never()
	}
	s := api.Scalar{Min: max(a.Min, b.Min), Max: min(a.Max, b.Max)}
	s.Tnum = learned(a.Tnum, b.Tnum.Value, ^(b.Tnum.Value | b.Tnum.Mask))
	return tight(s, s)
}

// notEqual is what a and b are, if they are not the same.
func notEqual(a, b api.Scalar) (api.Scalar, api.Scalar, bool) {
	m, some := scalar.Only(a)
	n, other := scalar.Only(b)
	if some && other && m == n {
		return never()
	}
	if other {
		a = without(a, n)
	}
	if some {
		b = without(b, m)
	}
	return tight(a, b)
}

// without is s but for n where it is a bound; between the bounds nothing tells of a gap.
func without(s api.Scalar, n uint64) api.Scalar {
	if s.Min == n {
		s.Min++
	}
	if s.Max == n {
		s.Max--
	}
	return s
}

// above is what a and b are, if a is above b.
func above(a, b api.Scalar) (api.Scalar, api.Scalar, bool) {
	if b.Min == all || a.Max == 0 { // beyond them there is no number
		return never()
	}
	a.Min, b.Max = max(a.Min, b.Min+1), min(b.Max, a.Max-1)
	return tight(a, b)
}

// atLeast is what a and b are, if a is not below b.
func atLeast(a, b api.Scalar) (api.Scalar, api.Scalar, bool) {
	a.Min, b.Max = max(a.Min, b.Min), min(b.Max, a.Max)
	return tight(a, b)
}

// share is what a and b are, if there is a bit that both have.
func share(a, b api.Scalar) (api.Scalar, api.Scalar, bool) {
	if (a.Tnum.Value|a.Tnum.Mask)&(b.Tnum.Value|b.Tnum.Mask) == 0 {
		return never()
	}
	// Of several bits nothing tells which one is shared.
	if n, fixed := scalar.Only(b); fixed && n&(n-1) == 0 {
		a.Tnum = learned(a.Tnum, n, 0)
	}
	return tight(a, b)
}

// shareNone is what a and b are, if there is no bit that both have.
func shareNone(a, b api.Scalar) (api.Scalar, api.Scalar, bool) {
	if a.Tnum.Value&b.Tnum.Value != 0 {
		return never()
	}
	if n, fixed := scalar.Only(b); fixed {
		a.Tnum = learned(a.Tnum, 0, n)
	}
	return tight(a, b)
}
