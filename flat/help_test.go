package flat_test

import (
	"math"
	"slices"
	"testing"

	"portcullis/api"
	"portcullis/flat"
	"portcullis/kmem"
)

const (
	both   = api.PermRead | api.PermWrite
	region = 1 << 32 // from one region's first address to the next one's
)

// kinds is those of which there are arrays.
var kinds = []int{api.MapArray, api.MapCpu}

// spec is an array's.
func spec(kind, value, most int) api.MapSpec {
	return api.MapSpec{Kind: kind, Key: 4, Value: value, Max: most}
}

// build makes an array that must be taken, in a memory of its own.
func build(t *testing.T, s api.MapSpec, cpus int) (*flat.Map, *kmem.Mem) {
	t.Helper()
	m := kmem.New()
	return buildIn(t, m, s, cpus), m
}

// buildIn makes an array that must be taken.
func buildIn(t *testing.T, m *kmem.Mem, s api.MapSpec, cpus int) *flat.Map {
	t.Helper()
	x, e := flat.New(m, s, cpus)
	if x == nil || e != api.OK {
		t.Fatalf("New(%v, %d): %v, error %d", s, cpus, x, e)
	}
	return x
}

// key is the key of the number n.
func key(n int) string {
	return string([]byte{byte(n), byte(n >> 8), byte(n >> 16), byte(n >> 24)})
}

// notKeys is keys of other lengths.
var notKeys = []string{"", "\x00", "\x00\x00\x00", "\x00\x00\x00\x00\x00", "\x01\x00\x00", "\x01\x00\x00\x00\x00", "\x00\x00\x00\x00\x00\x00\x00\x00"}

// filled is n bytes, each of which is b.
func filled(b byte, n int) string {
	return string(slices.Repeat([]byte{b}, n))
}

// noise is n bytes of a row that hangs on from alone.
func noise(from, n int) string {
	b := make([]byte, n)
	for i := range b {
		from = (from*1103515245 + 12345) & math.MaxInt32
		b[i] = byte(from >> 16)
	}
	return string(b)
}

// contents is the bytes of all regions of m.
func contents(m *kmem.Mem) []string {
	var l []string
	for _, r := range m.Regions() {
		l = append(l, r.Bytes)
	}
	return l
}

// wantErr holds a call's error against the one that is due.
func wantErr(t *testing.T, what string, got, want api.Errno) {
	t.Helper()
	if got != want {
		t.Errorf("%s: error %d; want %d", what, got, want)
	}
}

// wantRefused looks whether New refuses and leaves m as it was.
func wantRefused(t *testing.T, m *kmem.Mem, s api.MapSpec, cpus int, want api.Errno) {
	t.Helper()
	before := m.Regions()
	if x, e := flat.New(m, s, cpus); x != nil || e != want {
		t.Errorf("New(%v, %d): %v, error %d; want nil, error %d", s, cpus, x, e, want)
	}
	if after := m.Regions(); !slices.Equal(after, before) {
		t.Errorf("New(%v, %d) left %d regions; want %d", s, cpus, len(after), len(before))
	}
}

// wantNumbers looks at the numbers of the live regions.
func wantNumbers(t *testing.T, m *kmem.Mem, want ...int) {
	t.Helper()
	var got []int
	for _, r := range m.Regions() {
		got = append(got, r.Number)
	}
	if !slices.Equal(got, want) {
		t.Errorf("live regions: %v; want %v", got, want)
	}
}

// wantContents looks at the bytes of all regions of m.
func wantContents(t *testing.T, m *kmem.Mem, want ...string) {
	t.Helper()
	if got := contents(m); !slices.Equal(got, want) {
		t.Errorf("regions: %q; want %q", got, want)
	}
}

// wantAt looks at what Lookup tells.
func wantAt(t *testing.T, x *flat.Map, key string, cpu int, want uint64) {
	t.Helper()
	if got := x.Lookup(key, cpu); got != want {
		t.Errorf("Lookup(%q, %d): %#x; want %#x", key, cpu, got, want)
	}
}

// wantUpdate looks at what Update tells.
func wantUpdate(t *testing.T, x *flat.Map, key, value string, flags, cpu int, want api.Errno) {
	t.Helper()
	if got := x.Update(key, value, flags, cpu); got != want {
		t.Errorf("Update(%q, %d bytes, %d, %d): error %d; want %d", key, len(value), flags, cpu, got, want)
	}
}

// wantNext looks at what Next tells.
func wantNext(t *testing.T, x *flat.Map, key, want string, err api.Errno) {
	t.Helper()
	if got, e := x.Next(key); got != want || e != err {
		t.Errorf("Next(%q): %q, error %d; want %q, error %d", key, got, e, want, err)
	}
}

// wantValue looks at a CPU's value, at the address that Lookup tells.
func wantValue(t *testing.T, x *flat.Map, m *kmem.Mem, n, cpu int, want string) {
	t.Helper()
	if got, e := m.Bytes(x.Lookup(key(n), cpu), len(want)); got != want || e != api.OK {
		t.Errorf("value %d of CPU %d: %q, error %d; want %q", n, cpu, got, e, want)
	}
}

// wantGone looks whether x tells nothing whatever it is asked.
func wantGone(t *testing.T, x *flat.Map, value int) {
	t.Helper()
	for _, k := range append([]string{key(0), key(1), key(2), key(-1)}, notKeys...) {
		for _, cpu := range []int{-2, -1, 0, 1, 8} {
			wantAt(t, x, k, cpu, 0)
			for flags := -1; flags <= 3; flags++ {
				wantUpdate(t, x, k, filled('x', value), flags, cpu, api.ErrArg)
				wantUpdate(t, x, k, "", flags, cpu, api.ErrArg)
			}
		}
		wantErr(t, "Delete", x.Delete(k), api.ErrArg)
		wantNext(t, x, k, "", api.ErrArg)
	}
	wantErr(t, "Free", x.Free(), api.ErrArg)
}

// draws answers a row of numbers that hangs on nothing.
func draws() func() uint64 {
	state := uint64(8)
	return func() uint64 {
		state += 0x9e3779b97f4a7c15
		n := (state ^ state>>30) * 0xbf58476d1ce4e5b9
		n = (n ^ n>>27) * 0x94d049bb133111eb
		return n ^ n>>31
	}
}

// among draws one of several.
func among[T any](draw func() uint64, l ...T) T { return l[draw()%uint64(len(l))] }
