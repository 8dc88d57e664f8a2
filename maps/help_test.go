package maps_test

import (
	"math"
	"slices"
	"strconv"
	"testing"

	"portcullis/api"
	"portcullis/kmem"
	"portcullis/maps"
)

const (
	both   = api.PermRead | api.PermWrite
	region = 1 << 32 // from one region's first address to the next one's
)

// far is numbers that no field takes.
var far = []int{math.MinInt, -1 << 32, -1, 1<<32 + 1, 1<<32 + 4, 1 << 62, math.MaxInt}

// anyCpus is CPUs, also such as aren't there.
var anyCpus = []int{math.MinInt, -2, -1, 0, 1, 7, 8, math.MaxInt}

// samples is a spec of each kind that is taken; those with room for entries have room for two.
var samples = []api.MapSpec{
	{Kind: api.MapHash, Key: 2, Value: 3, Max: 2},
	{Kind: api.MapArray, Key: 4, Value: 3, Max: 2},
	{Kind: api.MapProgs, Key: 4, Value: 4, Max: 2},
	{Kind: api.MapCpu, Key: 4, Value: 3, Max: 2},
	{Kind: api.MapLru, Key: 2, Value: 3, Max: 2},
	{Kind: api.MapTrie, Key: 6, Value: 3, Max: 2},
	{Kind: api.MapQueue, Value: 3, Max: 2},
	{Kind: api.MapStack, Value: 3, Max: 2},
	{Kind: api.MapRing, Max: 64},
}

// sample is that spec of a kind.
func sample(kind int) api.MapSpec {
	i := slices.IndexFunc(samples, func(s api.MapSpec) bool { return s.Kind == kind })
	return samples[i]
}

// build makes a map that must be taken, for three CPUs, in a memory of its own.
func build(t *testing.T, s api.MapSpec) (*maps.Map, *kmem.Mem) {
	t.Helper()
	m := kmem.New()
	return buildIn(t, m, s, 3), m
}

// buildIn makes a map that must be taken.
func buildIn(t *testing.T, m *kmem.Mem, s api.MapSpec, cpus int) *maps.Map {
	t.Helper()
	x, e := maps.New(m, s, cpus)
	if x == nil || e != api.OK {
		t.Fatalf("New(%v, %d): %v, error %d", s, cpus, x, e)
	}
	return x
}

// key is the number n in 4 bytes, little end first: an array's key, and a program's.
func key(n int) string {
	return string([]byte{byte(n), byte(n >> 8), byte(n >> 16), byte(n >> 24)})
}

// at is the first address of the region of that number.
func at(number int) uint64 { return uint64(number) * region }

// row is n bytes.
func row(n int) string { return string(slices.Repeat([]byte{'x'}, n)) }

// live is a region that may be read and written.
func live(number int, bytes string) api.Region {
	return api.Region{Number: number, Perm: both, Bytes: bytes}
}

// filledUp makes m have no room for a region.
func filledUp(t *testing.T, m *kmem.Mem) {
	t.Helper()
	for range api.MaxRegions - len(m.Regions()) {
		if _, e := m.Alloc(1, both); e != api.OK {
			t.Fatalf("Alloc: error %d", e)
		}
	}
}

// wantErr holds a call's error against the one that is due.
func wantErr(t *testing.T, what string, got, want api.Errno) {
	t.Helper()
	if got != want {
		t.Errorf("%s: error %d; want %d", what, got, want)
	}
}

// wantRefused looks whether New refuses and leaves m as it was.
func wantRefused(t *testing.T, m *kmem.Mem, s api.MapSpec, cpus int, want api.Errno) {
	t.Helper()
	before := m.Regions()
	if x, e := maps.New(m, s, cpus); x != nil || e != want {
		t.Errorf("New(%v, %d): %v, error %d; want nil, error %d", s, cpus, x, e, want)
	}
	if after := m.Regions(); !slices.Equal(after, before) {
		t.Errorf("New(%v, %d) left %d regions; want %d", s, cpus, len(after), len(before))
	}
}

// wantFails looks whether the Alloc that was to fail is still to come: nothing asked the memory ahead.
func wantFails(t *testing.T, m *kmem.Mem) {
	t.Helper()
	_, e := m.Alloc(1, both)
	wantErr(t, "the Alloc that was to fail", e, api.ErrMem)
}

// wantAt looks at what Lookup tells.
func wantAt(t *testing.T, x *maps.Map, key string, cpu int, want uint64) {
	t.Helper()
	if got := x.Lookup(key, cpu); got != want {
		t.Errorf("Lookup(%q, %d) of %v: %#x; want %#x", key, cpu, x.Spec(), got, want)
	}
}

// wantUpdate looks at what Update tells.
func wantUpdate(t *testing.T, x *maps.Map, key, value string, flags, cpu int, want api.Errno) {
	t.Helper()
	if got := x.Update(key, value, flags, cpu); got != want {
		t.Errorf("Update(%q, %q, %d, %d) of %v: error %d; want %d", key, value, flags, cpu, x.Spec(), got, want)
	}
}

// wantDelete looks at what Delete tells.
func wantDelete(t *testing.T, x *maps.Map, key string, want api.Errno) {
	t.Helper()
	if got := x.Delete(key); got != want {
		t.Errorf("Delete(%q) of %v: error %d; want %d", key, x.Spec(), got, want)
	}
}

// wantNext looks at what Next tells.
func wantNext(t *testing.T, x *maps.Map, key, want string, err api.Errno) {
	t.Helper()
	if got, e := x.Next(key); got != want || e != err {
		t.Errorf("Next(%q) of %v: %q, error %d; want %q, error %d", key, x.Spec(), got, e, want, err)
	}
}

// wantPush looks at what Push tells.
func wantPush(t *testing.T, x *maps.Map, value string, flags int, want api.Errno) {
	t.Helper()
	if got := x.Push(value, flags); got != want {
		t.Errorf("Push(%q, %d) of %v: error %d; want %d", value, flags, x.Spec(), got, want)
	}
}

// wantPop looks at what Pop tells.
func wantPop(t *testing.T, x *maps.Map, want string, err api.Errno) {
	t.Helper()
	if got, e := x.Pop(); got != want || e != err {
		t.Errorf("Pop of %v: %q, error %d; want %q, error %d", x.Spec(), got, e, want, err)
	}
}

// wantPeek looks at what Peek tells.
func wantPeek(t *testing.T, x *maps.Map, want string, err api.Errno) {
	t.Helper()
	if got, e := x.Peek(); got != want || e != err {
		t.Errorf("Peek of %v: %q, error %d; want %q, error %d", x.Spec(), got, e, want, err)
	}
}

// wantReserve looks at what Reserve tells.
func wantReserve(t *testing.T, x *maps.Map, size int, want uint64, err api.Errno) {
	t.Helper()
	if got, e := x.Reserve(size); got != want || e != err {
		t.Errorf("Reserve(%d) of %v: %#x, error %d; want %#x, error %d", size, x.Spec(), got, e, want, err)
	}
}

// wantEnd looks at what End tells.
func wantEnd(t *testing.T, x *maps.Map, addr uint64, keep bool, want api.Errno) {
	t.Helper()
	if got := x.End(addr, keep); got != want {
		t.Errorf("End(%#x, %v) of %v: error %d; want %d", addr, keep, x.Spec(), got, want)
	}
}

// wantOutput looks at what Output tells.
func wantOutput(t *testing.T, x *maps.Map, s string, want api.Errno) {
	t.Helper()
	if got := x.Output(s); got != want {
		t.Errorf("Output(%q) of %v: error %d; want %d", s, x.Spec(), got, want)
	}
}

// wantDrain looks at what Drain tells.
func wantDrain(t *testing.T, x *maps.Map, want ...string) {
	t.Helper()
	if got := x.Drain(); !slices.Equal(got, want) {
		t.Errorf("Drain of %v: %q; want %q", x.Spec(), got, want)
	}
}

// wantProg looks at what Prog tells.
func wantProg(t *testing.T, x *maps.Map, index, want int, there bool) {
	t.Helper()
	if got, ok := x.Prog(index); got != want || ok != there {
		t.Errorf("Prog(%d) of %v: %d, %v; want %d, %v", index, x.Spec(), got, ok, want, there)
	}
}

// wantFree looks at what Free tells.
func wantFree(t *testing.T, x *maps.Map, want api.Errno) {
	t.Helper()
	if got := x.Free(); got != want {
		t.Errorf("Free of %v: error %d; want %d", x.Spec(), got, want)
	}
}

// wantRegions holds all of the memory against what is due.
func wantRegions(t *testing.T, m *kmem.Mem, want ...api.Region) {
	t.Helper()
	if got := m.Regions(); !slices.Equal(got, want) {
		t.Errorf("regions: %v; want %v", got, want)
	}
}

// wantNumbers looks at the numbers of the live regions.
func wantNumbers(t *testing.T, m *kmem.Mem, want ...int) {
	t.Helper()
	var got []int
	for _, r := range m.Regions() {
		got = append(got, r.Number)
	}
	if !slices.Equal(got, want) {
		t.Errorf("live regions: %v; want %v", got, want)
	}
}

// short is a text as a fault's text shows it.
func short(s string) string {
	if len(s) > 16 {
		return strconv.Quote(s[:16]) + " of " + strconv.Itoa(len(s)) + " bytes"
	}
	return strconv.Quote(s)
}

// draws answers a row of numbers that hangs on nothing.
func draws() func() uint64 {
	state := uint64(13)
	return func() uint64 {
		state += 0x9e3779b97f4a7c15
		n := (state ^ state>>30) * 0xbf58476d1ce4e5b9
		n = (n ^ n>>27) * 0x94d049bb133111eb
		return n ^ n>>31
	}
}

// among draws one of several.
func among[T any](draw func() uint64, l ...T) T { return l[draw()%uint64(len(l))] }
