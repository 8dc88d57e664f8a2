package branch

// The ops: alu's tests, and its bits' opposite.
const (
	testEqual         = 16
	testAbove         = 32
	testAtLeast       = 48
	testShare         = 64
	testShareNone     = 68
	testNotEqual      = 80
	testSignedAbove   = 96
	testSignedAtLeast = 112
	testBelow         = 160
	testAtMost        = 176
	testSignedBelow   = 192
	testSignedAtMost  = 208
)

// opposites is the ops by twos of which always just one is true.
var opposites = [6][2]int{
	{testEqual, testNotEqual},
	{testAbove, testAtMost},
	{testAtLeast, testBelow},
	{testShare, testShareNone},
	{testSignedAbove, testSignedAtMost},
	{testSignedAtLeast, testSignedBelow},
}

// withoutSign is what a signed op asks of numbers that have no sign.
func withoutSign(op int) int {
	switch op {
	case testSignedAbove:
		return testAbove
	case testSignedAtLeast:
		return testAtLeast
	case testSignedBelow:
		return testBelow
	}
	return testAtMost
}

// all is the greatest number, low the greatest one of 32 bits.
const (
	all = 1<<64 - 1
	low = 1<<32 - 1
)

// greatest is the greatest number that a test looks at whole.
func greatest(wide bool) uint64 {
	if wide {
		return all
	}
	return low
}
