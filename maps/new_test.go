package maps_test

import (
	"slices"
	"testing"

	"portcullis/api"
	"portcullis/flat"
	"portcullis/hash"
	"portcullis/kmem"
	"portcullis/maps"
	"portcullis/queue"
	"portcullis/ring"
	"portcullis/trie"
)

// wantTaken looks whether Check takes a spec, and New of an empty memory with it.
func wantTaken(t *testing.T, s api.MapSpec) {
	t.Helper()
	wantErr(t, "Check", maps.Check(s), api.OK)
	if x := buildIn(t, kmem.New(), s, 1); x.Spec() != s {
		t.Errorf("Spec: %v; want %v", x.Spec(), s)
	}
}

// wantNone looks whether Check refuses a spec, and New with it, which doesn't ask the memory.
func wantNone(t *testing.T, s api.MapSpec) {
	t.Helper()
	if e := maps.Check(s); e != api.ErrArg {
		t.Errorf("Check(%v): error %d; want %d", s, e, api.ErrArg)
	}
	m := kmem.New()
	m.Fail(1)
	wantRefused(t, m, s, 1, api.ErrArg)
	wantFails(t, m)
}

// 13.1: of each kind that there is some numbers are taken, and of no other kind any.
func TestCheckKinds(t *testing.T) {
	for _, c := range []struct {
		key, value, most int
		kinds            []int
	}{
		{4, 4, 2, []int{api.MapHash, api.MapArray, api.MapProgs, api.MapCpu, api.MapLru}},
		{8, 4, 2, []int{api.MapHash, api.MapLru, api.MapTrie}},
		{0, 4, 2, []int{api.MapQueue, api.MapStack}},
		{0, 4, 64, []int{api.MapQueue, api.MapStack}},
		{0, 0, 64, []int{api.MapRing}},
		{4, 0, 64, nil},
		{0, 0, 0, nil},
	} {
		for kind := -2; kind <= 300; kind++ {
			s := api.MapSpec{Kind: kind, Key: c.key, Value: c.value, Max: c.most}
			if slices.Contains(c.kinds, kind) {
				wantTaken(t, s)
			} else {
				wantNone(t, s)
			}
		}
		for _, kind := range append(far, 1<<32+api.MapHash, 1<<32+api.MapProgs, 1<<32+api.MapRing) {
			wantNone(t, api.MapSpec{Kind: kind, Key: c.key, Value: c.value, Max: c.most})
		}
	}
	wantNone(t, api.MapSpec{})
}

// bounds is of some kinds, for each field, numbers that are taken and such as aren't, where the others are the sample's.
var bounds = []struct {
	kinds                               []int
	key, noKey, value, noValue, max, no []int
}{
	{
		kinds: []int{api.MapHash, api.MapLru},
		key:   []int{1, 4, api.MaxKey}, noKey: []int{0, api.MaxKey + 1},
		value: []int{1, 8, api.MaxValue}, noValue: []int{0, api.MaxValue + 1},
		max: []int{1, 3, api.MaxEntries}, no: []int{0, api.MaxEntries + 1},
	},
	{
		kinds: []int{api.MapArray, api.MapCpu},
		key:   []int{4}, noKey: []int{0, 1, 3, 5, 8},
		value: []int{1, 8, api.MaxValue}, noValue: []int{0, api.MaxValue + 1},
		max: []int{1, 3, api.MaxEntries}, no: []int{0, api.MaxEntries + 1},
	},
	{
		kinds: []int{api.MapProgs},
		key:   []int{4}, noKey: []int{0, 1, 3, 5, 8},
		value: []int{4}, noValue: []int{0, 1, 3, 5, 8},
		max: []int{1, 3, api.MaxEntries}, no: []int{0, api.MaxEntries + 1},
	},
	{
		kinds: []int{api.MapTrie},
		key:   []int{5, 8, 260}, noKey: []int{0, 3, 4, 261},
		value: []int{1, 8, api.MaxValue}, noValue: []int{0, api.MaxValue + 1},
		max: []int{1, 3, api.MaxEntries}, no: []int{0, api.MaxEntries + 1},
	},
	{
		kinds: []int{api.MapQueue, api.MapStack},
		key:   []int{0}, noKey: []int{1, 4},
		value: []int{1, 8, api.MaxValue}, noValue: []int{0, api.MaxValue + 1},
		max: []int{1, 3, api.MaxEntries}, no: []int{0, api.MaxEntries + 1},
	},
	{
		kinds: []int{api.MapRing},
		key:   []int{0}, noKey: []int{1, 4},
		value: []int{0}, noValue: []int{1, 4},
		max: []int{64, 128, 65536}, no: []int{0, 1, 32, 63, 65, 96, 65535, 65537, 131072},
	},
}

// 13.1: of each kind each field at its bounds and one past them.
func TestCheckFields(t *testing.T) {
	seen := 0
	for _, c := range bounds {
		for _, kind := range c.kinds {
			seen++
			look := func(what func(*testing.T, api.MapSpec), l []int, set func(s *api.MapSpec, n int)) {
				for _, n := range l {
					s := sample(kind)
					set(&s, n)
					what(t, s)
				}
			}
			setKey := func(s *api.MapSpec, n int) { s.Key = n }
			setValue := func(s *api.MapSpec, n int) { s.Value = n }
			setMax := func(s *api.MapSpec, n int) { s.Max = n }
			look(wantTaken, c.key, setKey)
			look(wantTaken, c.value, setValue)
			look(wantTaken, c.max, setMax)
			look(wantNone, append(far, c.noKey...), setKey)
			look(wantNone, append(far, c.noValue...), setValue)
			look(wantNone, append(far, c.no...), setMax)
			look(wantNone, far, func(s *api.MapSpec, n int) { s.Key, s.Value, s.Max = n, n, n })
		}
	}
	if seen != len(samples) {
		t.Errorf("%d kinds; want %d", seen, len(samples))
	}
}

// 13.1: the fields' bounds together: an array's values fill a region at most, and one for each CPU has as many in each.
func TestCheckTogether(t *testing.T) {
	for _, kind := range []int{api.MapArray, api.MapCpu} {
		wantTaken(t, api.MapSpec{Kind: kind, Key: 4, Value: 4096, Max: 256})
		wantNone(t, api.MapSpec{Kind: kind, Key: 4, Value: 4096, Max: 257})
		wantTaken(t, api.MapSpec{Kind: kind, Key: 4, Value: 256, Max: 4096})
		wantNone(t, api.MapSpec{Kind: kind, Key: 4, Value: 257, Max: 4096})
		wantTaken(t, api.MapSpec{Kind: kind, Key: 4, Value: 257, Max: 3971})
		wantNone(t, api.MapSpec{Kind: kind, Key: 4, Value: 257, Max: 3972})
		buildIn(t, kmem.New(), api.MapSpec{Kind: kind, Key: 4, Value: 4096, Max: 256}, 8)
	}
	for _, kind := range []int{api.MapHash, api.MapLru} {
		wantTaken(t, api.MapSpec{Kind: kind, Key: api.MaxKey, Value: api.MaxValue, Max: api.MaxEntries})
	}
	wantTaken(t, api.MapSpec{Kind: api.MapTrie, Key: 260, Value: api.MaxValue, Max: api.MaxEntries})
	wantTaken(t, api.MapSpec{Kind: api.MapStack, Value: api.MaxValue, Max: api.MaxEntries})
	wantTaken(t, api.MapSpec{Kind: api.MapProgs, Key: 4, Value: 4, Max: api.MaxEntries})
}

// 13.1: Check is OK just where one of the layers takes a spec, or it is one of programs.
func TestCheckIsTheLayers(t *testing.T) {
	numbers := []int{-1, 0, 1, 4, 5, 64, 257, 260, 261, 512, 513, 4096, 4097, 65536}
	for _, sample := range samples {
		for _, k := range numbers {
			for _, v := range numbers {
				for _, n := range numbers {
					s := api.MapSpec{Kind: sample.Kind, Key: k, Value: v, Max: n}
					_, a := flat.New(kmem.New(), s, 1)
					_, b := queue.New(s)
					_, c := hash.New(kmem.New(), s)
					_, d := trie.New(kmem.New(), s)
					_, e := ring.New(kmem.New(), s)
					progs := s.Kind == api.MapProgs && k == 4 && v == 4 && n >= 1 && n <= 4096
					want := api.ErrArg
					if progs || slices.Contains([]api.Errno{a, b, c, d, e}, api.OK) {
						want = api.OK
					}
					if got := maps.Check(s); got != want {
						t.Errorf("Check(%v): error %d; want %d", s, got, want)
					}
				}
			}
		}
	}
}

// 13.1: cpus is 1 to 8, also of those kinds that have nothing of each CPU's.
func TestNewCpus(t *testing.T) {
	for _, s := range samples {
		for cpus := 1; cpus <= 8; cpus++ {
			if x := buildIn(t, kmem.New(), s, cpus); x.Spec() != s {
				t.Errorf("Spec: %v; want %v", x.Spec(), s)
			}
		}
		for _, cpus := range append(far, -8, -2, 0, 9, 10, 1<<32, 1<<32+1, 1<<32+8) {
			m := kmem.New()
			m.Fail(1)
			wantRefused(t, m, s, cpus, api.ErrArg)
			wantFails(t, m)
		}
	}
}

// 13.1: an array for each CPU has a region for each, an array one for all, and the others have none at first.
func TestNewRegions(t *testing.T) {
	for _, s := range samples {
		for cpus := 1; cpus <= 8; cpus++ {
			m := kmem.New()
			buildIn(t, m, s, cpus)
			var want []api.Region
			if s.Kind == api.MapArray {
				want = []api.Region{live(1, string(make([]byte, 16)))}
			}
			for cpu := 1; s.Kind == api.MapCpu && cpu <= cpus; cpu++ {
				want = append(want, live(cpu, string(make([]byte, 16))))
			}
			wantRegions(t, m, want...)
		}
	}
}

// 13.1: without a memory there is no map, also none of those kinds that need none.
func TestNewWithoutMemory(t *testing.T) {
	for _, s := range append(samples, api.MapSpec{}, api.MapSpec{Kind: api.MapQueue}, api.MapSpec{Kind: 4, Key: 4, Value: 4, Max: 1}) {
		for _, cpus := range []int{-1, 0, 1, 8, 9} {
			if x, e := maps.New(nil, s, cpus); x != nil || e != api.ErrArg {
				t.Errorf("New(nil, %v, %d): %v, error %d; want nil, error %d", s, cpus, x, e, api.ErrArg)
			}
		}
	}
}

// 13.1: a memory that refuses is told by the layer's error, where the layer asks it; Check asks no memory.
func TestNewMemoryRefuses(t *testing.T) {
	full := kmem.New()
	filledUp(t, full)
	for _, s := range samples {
		array := s.Kind == api.MapArray || s.Kind == api.MapCpu
		failing := kmem.New()
		failing.Fail(1)
		wantErr(t, "Check", maps.Check(s), api.OK)
		if !array {
			buildIn(t, failing, s, 3)
			wantFails(t, failing)
			buildIn(t, full, s, 3)
			continue
		}
		wantRefused(t, failing, s, 3, api.ErrMem)
		buildIn(t, failing, s, 3)
		if x, e := maps.New(full, s, 3); x != nil || e != api.ErrMem {
			t.Errorf("New(%v) of a full memory: %v, error %d; want nil, error %d", s, x, e, api.ErrMem)
		}
	}
	if n := len(full.Regions()); n != api.MaxRegions {
		t.Errorf("%d regions; want %d", n, api.MaxRegions)
	}
}

// 13.1: where a CPU's region is refused, those that were made ahead are freed.
func TestNewCpuFails(t *testing.T) {
	for nth := 1; nth <= 8; nth++ {
		m := kmem.New()
		m.Alloc(8, api.PermRead)
		m.Fail(nth)
		wantErr(t, "Check", maps.Check(sample(api.MapCpu)), api.OK)
		wantRefused(t, m, sample(api.MapCpu), 8, api.ErrMem)
		x := buildIn(t, m, sample(api.MapCpu), 8)
		wantAt(t, x, key(0), 0, at(1+nth))
	}
}

// 13.1: of several errors Check's is told ahead, then that of m and cpus, then the layer's.
func TestNewOrder(t *testing.T) {
	full := kmem.New()
	filledUp(t, full)
	good, bad := sample(api.MapCpu), sample(api.MapCpu)
	bad.Value = 0
	for _, c := range []struct {
		m    *kmem.Mem
		s    api.MapSpec
		cpus int
		want api.Errno
	}{
		{full, good, 8, api.ErrMem},
		{full, good, 9, api.ErrArg},
		{full, good, 0, api.ErrArg},
		{full, bad, 8, api.ErrArg},
		{full, bad, 9, api.ErrArg},
		{full, api.MapSpec{}, -1, api.ErrArg},
		{nil, good, 8, api.ErrArg},
		{nil, good, 9, api.ErrArg},
		{nil, bad, 8, api.ErrArg},
		{nil, bad, 9, api.ErrArg},
	} {
		if x, e := maps.New(c.m, c.s, c.cpus); x != nil || e != c.want {
			t.Errorf("New(%v, %d): %v, error %d; want nil, error %d", c.s, c.cpus, x, e, c.want)
		}
	}
}

// 13.1: each map tells the spec that it was made of, whatever was done to it, and others beside it.
func TestSpec(t *testing.T) {
	m := kmem.New()
	var l []*maps.Map
	for _, s := range samples {
		l = append(l, buildIn(t, m, s, 2))
	}
	for i, x := range l {
		if got := x.Spec(); got != samples[i] {
			t.Errorf("Spec: %v; want %v", got, samples[i])
		}
		disturb(x, allButFree...)
		x.Free()
		if got := x.Spec(); got != samples[i] {
			t.Errorf("Spec behind Free: %v; want %v", got, samples[i])
		}
	}
	var none *maps.Map
	if got := none.Spec(); got != (api.MapSpec{}) {
		t.Errorf("Spec of nil: %v", got)
	}
}
