package flat_test

import (
	"math"
	"testing"

	"portcullis/api"
	"portcullis/flat"
	"portcullis/kmem"
)

// far is numbers that no field takes.
var far = []int{math.MinInt, -1 << 32, -1, 1<<32 + 1, 1<<32 + 4, 1 << 62, math.MaxInt}

// 8.1: the chapter's example.
func TestNewExample(t *testing.T) {
	x, m := build(t, spec(api.MapArray, 4, 2), 1)
	wantRegions(t, m, 1, 16)
	wantAt(t, x, key(0), 0, region)
	wantAt(t, x, key(1), 0, region+8)
}

// 8.1: without a memory there is no array, whatever else is handed in.
func TestNewWithoutMemory(t *testing.T) {
	for _, s := range []api.MapSpec{spec(api.MapArray, 8, 2), spec(api.MapCpu, 8, 2), {}} {
		for _, cpus := range []int{-1, 0, 1, 8, 9} {
			if x, e := flat.New(nil, s, cpus); x != nil || e != api.ErrArg {
				t.Errorf("New(nil, %v, %d): %v, error %d", s, cpus, x, e)
			}
		}
	}
}

// 8.1: arrays are of two kinds, and of none of the other maps'.
func TestNewKinds(t *testing.T) {
	m := kmem.New()
	for kind := -2; kind <= 40; kind++ {
		if kind != api.MapArray && kind != api.MapCpu {
			wantRefused(t, m, spec(kind, 8, 2), 1, api.ErrArg)
			continue
		}
		buildIn(t, m, spec(kind, 8, 2), 1)
	}
	for _, kind := range far {
		wantRefused(t, m, spec(kind, 8, 2), 1, api.ErrArg)
	}
	wantRegions(t, m, 2, 16)
}

// 8.1: each number at its bounds and one past them, of both kinds.
func TestNewBounds(t *testing.T) {
	for _, kind := range kinds {
		for _, c := range []struct {
			key, value, most, cpus int
			want                   api.Errno
		}{
			{4, 8, 2, 1, api.OK},
			{0, 8, 2, 1, api.ErrArg},
			{1, 8, 2, 1, api.ErrArg},
			{3, 8, 2, 1, api.ErrArg},
			{5, 8, 2, 1, api.ErrArg},
			{8, 8, 2, 1, api.ErrArg},
			{-4, 8, 2, 1, api.ErrArg},
			{4, 0, 2, 1, api.ErrArg},
			{4, -1, 2, 1, api.ErrArg},
			{4, -8, 2, 1, api.ErrArg},
			{4, 1, 2, 1, api.OK},
			{4, 7, 2, 1, api.OK},
			{4, 9, 2, 1, api.OK},
			{4, api.MaxValue, 1, 1, api.OK},
			{4, api.MaxValue + 1, 1, 1, api.ErrArg},
			{4, api.MaxValue + 8, 1, 1, api.ErrArg},
			{4, 8, 0, 1, api.ErrArg},
			{4, 8, -1, 1, api.ErrArg},
			{4, 8, 1, 1, api.OK},
			{4, 8, api.MaxEntries, 1, api.OK},
			{4, 8, api.MaxEntries + 1, 1, api.ErrArg},
			{4, 1, api.MaxEntries + 1, 1, api.ErrArg},
			{4, 8, 2, -1, api.ErrArg},
			{4, 8, 2, 0, api.ErrArg},
			{4, 8, 2, 2, api.OK},
			{4, 8, 2, 8, api.OK},
			{4, 8, 2, 9, api.ErrArg},
			{4, 8, 2, 16, api.ErrArg},
			{3, 0, 0, 0, api.ErrArg},
			{5, api.MaxValue + 1, api.MaxEntries + 1, 9, api.ErrArg},
			{4, api.MaxValue + 1, 2, 0, api.ErrArg},
			{4, -8, -2, 1, api.ErrArg},
		} {
			s := api.MapSpec{Kind: kind, Key: c.key, Value: c.value, Max: c.most}
			m := kmem.New()
			if c.want != api.OK {
				wantRefused(t, m, s, c.cpus, c.want)
				continue
			}
			buildIn(t, m, s, c.cpus)
		}
	}
}

// 8.1: numbers that are far off are refused in each field.
func TestNewFarNumbers(t *testing.T) {
	m := kmem.New()
	for _, kind := range kinds {
		for _, n := range far {
			wantRefused(t, m, api.MapSpec{Kind: kind, Key: n, Value: 8, Max: 2}, 1, api.ErrArg)
			wantRefused(t, m, api.MapSpec{Kind: kind, Key: 4, Value: n, Max: 2}, 1, api.ErrArg)
			wantRefused(t, m, api.MapSpec{Kind: kind, Key: 4, Value: 8, Max: n}, 1, api.ErrArg)
			wantRefused(t, m, api.MapSpec{Kind: kind, Key: 4, Value: n, Max: n}, 1, api.ErrArg)
			wantRefused(t, m, api.MapSpec{Kind: kind, Key: 4, Value: 8, Max: 2}, n, api.ErrArg)
		}
	}
}

// 8.1: all values together have MaxRegion bytes, of which each value takes a multiple of 8.
func TestNewMostBytes(t *testing.T) {
	for _, kind := range kinds {
		for _, c := range []struct{ value, width int }{
			{api.MaxValue, 4096},
			{4095, 4096},
			{4089, 4096},
			{2048, 2048},
			{2041, 2048},
			{1024, 1024},
			{1017, 1024},
			{512, 512},
			{511, 512},
			{256, 256},
			{249, 256},
		} {
			most := api.MaxRegion / c.width
			_, m := build(t, spec(kind, c.value, most), 1)
			wantRegions(t, m, 1, api.MaxRegion)
			wantRefused(t, kmem.New(), spec(kind, c.value, most+1), 1, api.ErrArg)
		}
		// 257 bytes take 264, of which 3971 times is within MaxRegion; 257 themselves would go 4080 times.
		_, m := build(t, spec(kind, 257, 3971), 1)
		wantRegions(t, m, 1, 3971*264)
		wantRefused(t, kmem.New(), spec(kind, 257, 3972), 1, api.ErrArg)
		wantRefused(t, kmem.New(), spec(kind, 257, 4080), 1, api.ErrArg)
		// of 256 and less MaxEntries is the bound
		wantRefused(t, kmem.New(), spec(kind, 256, api.MaxEntries+1), 1, api.ErrArg)
	}
}

// 8.1: an array has one region, one for each CPU one for each of them, of zeros, to read and write.
func TestNewRegions(t *testing.T) {
	for _, c := range []struct{ value, most, size int }{
		{1, 1, 8},
		{1, 3, 24},
		{7, 2, 16},
		{8, 2, 16},
		{9, 2, 32},
		{16, 5, 80},
		{4093, 2, 8192},
	} {
		for cpus := 1; cpus <= 8; cpus++ {
			_, m := build(t, spec(api.MapArray, c.value, c.most), cpus)
			wantRegions(t, m, 1, c.size)
			_, m = build(t, spec(api.MapCpu, c.value, c.most), cpus)
			wantRegions(t, m, cpus, c.size)
		}
	}
}

// wantRegions looks whether m has so many regions of so many zeros, numbered from 1 on.
func wantRegions(t *testing.T, m *kmem.Mem, count, size int) {
	t.Helper()
	l := m.Regions()
	if len(l) != count {
		t.Fatalf("%d regions; want %d", len(l), count)
	}
	for i, r := range l {
		if r.Number != i+1 || r.Perm != both || r.Bytes != filled(0, size) {
			t.Errorf("region %d: number %d, perm %d, %d bytes; want %d zeros", i+1, r.Number, r.Perm, len(r.Bytes), size)
		}
	}
}

// 8.1: the regions are the CPUs' in order, behind those that were there.
func TestNewOrder(t *testing.T) {
	m := kmem.New()
	for range 3 {
		m.Alloc(5, api.PermRead)
	}
	x := buildIn(t, m, spec(api.MapCpu, 9, 3), 8)
	y := buildIn(t, m, spec(api.MapArray, 9, 3), 8)
	z := buildIn(t, m, spec(api.MapCpu, 9, 3), 2)
	for cpu := range 8 {
		for n := range 3 {
			wantAt(t, x, key(n), cpu, uint64(4+cpu)*region+uint64(16*n))
			wantAt(t, y, key(n), cpu, 12*region+uint64(16*n))
		}
	}
	wantAt(t, z, key(2), 0, 13*region+32)
	wantAt(t, z, key(2), 1, 14*region+32)
	wantAt(t, z, key(2), 2, 0)
	wantNumbers(t, m, 1, 2, 3, 4, 5, 6, 7, 8, 9, 10, 11, 12, 13, 14)
}

// 8.1: where an Alloc fails, the regions that were made ahead are freed, and the others are as they were.
func TestNewFails(t *testing.T) {
	for _, kind := range kinds {
		for cpus := 1; cpus <= 8; cpus++ {
			made := 1
			if kind == api.MapCpu {
				made = cpus
			}
			for nth := 1; nth <= made; nth++ {
				m := kmem.New()
				m.Alloc(8, api.PermRead)
				m.Put(region, "as it is")
				wantErr(t, "Fail", m.Fail(nth), api.OK)
				wantRefused(t, m, spec(kind, 8, 2), cpus, api.ErrMem)
				// the Alloc that failed was the last one: the regions behind it were never asked for
				x := buildIn(t, m, spec(kind, 8, 2), cpus)
				wantAt(t, x, key(0), 0, uint64(1+nth)*region)
			}
			m := kmem.New()
			wantErr(t, "Fail", m.Fail(made+1), api.OK)
			buildIn(t, m, spec(kind, 8, 2), cpus)
			_, e := m.Alloc(8, both)
			wantErr(t, "Alloc behind New", e, api.ErrMem)
		}
	}
}

// 8.1: what is refused by its numbers asks for no region.
func TestNewRefusedAsksNothing(t *testing.T) {
	m := kmem.New()
	m.Fail(1)
	wantRefused(t, m, spec(api.MapCpu, 0, 2), 4, api.ErrArg)
	wantRefused(t, m, spec(api.MapHash, 8, 2), 4, api.ErrArg)
	wantRefused(t, m, spec(api.MapArray, 8, 2), 9, api.ErrArg)
	wantRefused(t, m, spec(api.MapArray, 8, 2), 4, api.ErrMem)
}

// 8.1: a memory that has room for some of the regions alone refuses, and has that room again.
func TestNewFullMemory(t *testing.T) {
	m := kmem.New()
	for range api.MaxRegions - 3 {
		m.Alloc(1, both)
	}
	before := len(m.Regions())
	if x, e := flat.New(m, spec(api.MapCpu, 8, 2), 4); x != nil || e != api.ErrMem {
		t.Errorf("New: %v, error %d", x, e)
	}
	if after := len(m.Regions()); after != before {
		t.Errorf("New left %d regions; want %d", after, before)
	}
	buildIn(t, m, spec(api.MapCpu, 8, 2), 3)
	if x, e := flat.New(m, spec(api.MapArray, 8, 2), 1); x != nil || e != api.ErrMem {
		t.Errorf("New of a full memory: %v, error %d", x, e)
	}
}
