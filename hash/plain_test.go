package hash_test

import (
	"slices"
	"testing"

	"portcullis/api"
	"portcullis/hash"
	"portcullis/kmem"
)

// pair is an entry as the chapter says it.
type pair struct {
	key    string
	number int // its region's
}

// plain is a table as the chapter says it, in a memory of its own.
type plain struct {
	spec    api.MapSpec
	pairs   []pair // the one that was used longest ago first
	regions []api.Region
	retired []int
	made    int
	fails   bool // the next Alloc does
	freed   bool
}

// take takes the pair of a key off; false, if there is none.
func (p *plain) take(key string) (pair, bool) {
	i := slices.IndexFunc(p.pairs, func(c pair) bool { return c.key == key })
	if i < 0 {
		return pair{}, false
	}
	c := p.pairs[i]
	p.pairs = slices.Delete(p.pairs, i, i+1)
	return c, true
}

// has tells whether a key is there.
func (p *plain) has(key string) bool {
	return slices.ContainsFunc(p.pairs, func(c pair) bool { return c.key == key })
}

// forget makes the memory have none of the regions of these numbers.
func (p *plain) forget(numbers []int) {
	p.regions = slices.DeleteFunc(p.regions, func(r api.Region) bool { return slices.Contains(numbers, r.Number) })
}

func (p *plain) lookup(key string) uint64 {
	c, ok := p.take(key)
	if !ok {
		return 0
	}
	p.pairs = append(p.pairs, c)
	return uint64(c.number) * region
}

func (p *plain) update(key, value string, flags int) api.Errno {
	there := p.has(key)
	full := len(p.pairs) == p.spec.Max
	switch {
	case p.freed, len(key) != p.spec.Key, len(value) != p.spec.Value, flags < 0, flags > 2:
		return api.ErrArg
	case there && flags == 1:
		return api.ErrExists
	case there:
		c, _ := p.take(key)
		p.pairs = append(p.pairs, c)
		i := slices.IndexFunc(p.regions, func(r api.Region) bool { return r.Number == c.number })
		p.regions[i].Bytes = value
		return api.OK
	case flags == 2:
		return api.ErrNone
	case full && p.spec.Kind == api.MapHash:
		return api.ErrFull
	case p.fails:
		p.fails = false
		return api.ErrMem
	case full:
		p.del(p.pairs[0].key)
	}
	p.made++
	p.regions = append(p.regions, held(p.made, value))
	p.pairs = append(p.pairs, pair{key, p.made})
	return api.OK
}

func (p *plain) del(key string) api.Errno {
	if p.freed || len(key) != p.spec.Key {
		return api.ErrArg
	}
	c, ok := p.take(key)
	if !ok {
		return api.ErrNone
	}
	p.retired = append(p.retired, c.number)
	return api.OK
}

func (p *plain) keys() []string {
	var l []string
	for _, c := range p.pairs {
		l = append(l, c.key)
	}
	slices.Sort(l)
	return l
}

func (p *plain) next(key string) (string, api.Errno) {
	for _, k := range p.keys() {
		if len(key) != p.spec.Key || k > key {
			return k, api.OK
		}
	}
	return "", api.ErrNone
}

func (p *plain) grace() {
	p.forget(p.retired)
	p.retired = nil
}

func (p *plain) free() api.Errno {
	if p.freed {
		return api.ErrArg
	}
	var numbers []int
	for _, c := range p.pairs {
		numbers = append(numbers, c.number)
	}
	p.forget(numbers)
	p.pairs, p.freed = nil, true
	return api.OK
}

// twins is a table, and the plain one that it is held against.
type twins struct {
	t *testing.T
	x *hash.Map
	m *kmem.Mem
	p *plain
}

// pairUp makes a table, and a plain one of the same spec.
func pairUp(t *testing.T, s api.MapSpec) twins {
	t.Helper()
	x, m := build(t, s)
	return twins{t, x, m, &plain{spec: s}}
}

func (w twins) lookup(key string) {
	w.t.Helper()
	wantAt(w.t, w.x, key, w.p.lookup(key))
}

func (w twins) update(key, value string, flags int) api.Errno {
	w.t.Helper()
	err := w.p.update(key, value, flags)
	wantUpdate(w.t, w.x, key, value, flags, err)
	return err
}

func (w twins) del(key string) {
	w.t.Helper()
	wantDelete(w.t, w.x, key, w.p.del(key))
}

func (w twins) next(key string) {
	w.t.Helper()
	want, err := w.p.next(key)
	wantNext(w.t, w.x, key, want, err)
}

func (w twins) grace() {
	w.m.Grace()
	w.p.grace()
}

// fail makes the next Alloc fail.
func (w twins) fail() {
	w.m.Fail(1)
	w.p.fails = true
}

func (w twins) free() {
	w.t.Helper()
	wantErr(w.t, "Free", w.x.Free(), w.p.free())
}

// look holds all that is told without a use of an entry against the plain one.
func (w twins) look() {
	w.t.Helper()
	wantKeys(w.t, w.x, w.p.keys()...)
	wantRegions(w.t, w.m, w.p.regions...)
}
