package queue_test

import (
	"bytes"
	"strconv"
	"testing"

	"portcullis/api"
	"portcullis/queue"
)

// force is the flags of a Push that finds room.
const force = 2

// kinds is those that the package knows.
var kinds = []int{api.MapQueue, api.MapStack}

// spec is a queue's or a stack's.
func spec(kind, value, most int) api.MapSpec {
	return api.MapSpec{Kind: kind, Value: value, Max: most}
}

// build makes a queue or a stack that must be taken.
func build(t *testing.T, s api.MapSpec) *queue.Map {
	t.Helper()
	x, e := queue.New(s)
	if x == nil || e != api.OK {
		t.Fatalf("New(%v): %v, error %d", s, x, e)
	}
	return x
}

// with makes a queue or a stack of Max most, to which the values 0 to below n were pushed.
func with(t *testing.T, kind, most, n int) *queue.Map {
	t.Helper()
	x := build(t, spec(kind, 4, most))
	for i := range n {
		wantPush(t, x, value(i), 0, api.OK)
	}
	wantLen(t, x, n)
	return x
}

// value is a value of 4 bytes, another one for each n.
func value(n int) string {
	return string([]byte{byte(n >> 8), 0, byte(n), 0xff})
}

// filled is n bytes, each of which is b.
func filled(b byte, n int) string {
	return string(bytes.Repeat([]byte{b}, n))
}

// wantRefused looks whether New refuses.
func wantRefused(t *testing.T, s api.MapSpec) {
	t.Helper()
	if x, e := queue.New(s); x != nil || e != api.ErrArg {
		t.Errorf("New(%v): %v, error %d; want nil, error %d", s, x, e, api.ErrArg)
	}
}

// wantPush looks at what Push tells.
func wantPush(t *testing.T, x *queue.Map, value string, flags int, want api.Errno) {
	t.Helper()
	if got := x.Push(value, flags); got != want {
		t.Errorf("Push(%s, %d): error %d; want %d", short(value), flags, got, want)
	}
}

// wantPop looks at what Pop tells.
func wantPop(t *testing.T, x *queue.Map, want string, err api.Errno) {
	t.Helper()
	if got, e := x.Pop(); got != want || e != err {
		t.Errorf("Pop: %s, error %d; want %s, error %d", short(got), e, short(want), err)
	}
}

// wantPeek looks at what Peek tells.
func wantPeek(t *testing.T, x *queue.Map, want string, err api.Errno) {
	t.Helper()
	if got, e := x.Peek(); got != want || e != err {
		t.Errorf("Peek: %s, error %d; want %s, error %d", short(got), e, short(want), err)
	}
}

// wantLen looks at what Len tells.
func wantLen(t *testing.T, x *queue.Map, want int) {
	t.Helper()
	if got := x.Len(); got != want {
		t.Errorf("Len: %d; want %d", got, want)
	}
}

// wantAll pops all that waits, and looks whether it is just what is due.
func wantAll(t *testing.T, x *queue.Map, want ...string) {
	t.Helper()
	wantLen(t, x, len(want))
	for i, v := range want {
		wantPeek(t, x, v, api.OK)
		wantPop(t, x, v, api.OK)
		wantLen(t, x, len(want)-i-1)
	}
	wantPeek(t, x, "", api.ErrNone)
	wantPop(t, x, "", api.ErrNone)
	wantLen(t, x, 0)
}

// short is a value as a fault's text shows it.
func short(value string) string {
	if len(value) > 16 {
		return strconv.Quote(value[:16]) + " of " + strconv.Itoa(len(value)) + " bytes"
	}
	return strconv.Quote(value)
}

// turns is the values first to last in the order in which a map of that kind tells them.
func turns(kind, first, last int) []string {
	var l []string
	for n := first; n <= last; n++ {
		if kind == api.MapStack {
			l = append([]string{value(n)}, l...)
		} else {
			l = append(l, value(n))
		}
	}
	return l
}

// draws answers a row of numbers that hangs on nothing.
func draws() func() uint64 {
	state := uint64(9)
	return func() uint64 {
		state += 0x9e3779b97f4a7c15
		n := (state ^ state>>30) * 0xbf58476d1ce4e5b9
		n = (n ^ n>>27) * 0x94d049bb133111eb
		return n ^ n>>31
	}
}

// among draws one of several.
func among[T any](draw func() uint64, l ...T) T { return l[draw()%uint64(len(l))] }
