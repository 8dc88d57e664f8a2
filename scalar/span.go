package scalar

import "portcullis/api"

// all is the greatest number, low the greatest one of 32 bits.
const (
	all = 1<<64 - 1
	low = 1<<32 - 1
)

// number is a bound of a scalar.
type number uint64

func (n number) plus(m number) number { return n + m }

func (n number) less(m number) number { return n - m }

func (n number) times(m number) number { return n * m }

// over is n divided by m, which is not 0.
func (n number) over(m number) number { return n / m }

func (n number) left(by number) number { return n << by }

func (n number) right(by number) number { return n >> by }

// span is both halves of what bounds a scalar: its numbers lie from min to max.
type span struct{ min, max number }

// full is the span of all numbers.
func full() span { return span{max: all} }

// alone is the span of one number.
func alone(n uint64) span { return span{number(n), number(n)} }

// bounds is s's span.
func bounds(s api.Scalar) span { return span{number(s.Min), number(s.Max)} }

// within is the scalar of those of t's numbers that lie in s.
func within(t api.Tnum, s span) api.Scalar {
	return api.Scalar{Tnum: t, Min: uint64(s.min), Max: uint64(s.max)}
}

// both answers what is made of each half of a and the same half of b.
func (a span) both(with func(n, m number) number, b span) span {
	return span{with(a.min, b.min), with(a.max, b.max)}
}

// turned is the span the other way round, for what falls where b rises.
func (a span) turned() span { return span{a.max, a.min} }
