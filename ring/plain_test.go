package ring_test

import (
	"slices"
	"testing"

	"portcullis/api"
	"portcullis/kmem"
	"portcullis/ring"
)

// record is one as the chapter says it.
type record struct {
	number, size    int // its region's
	held, submitted bool
	text            string // as it was when it was submitted
}

// plain is a ring as the chapter says it, in a memory of its own.
type plain struct {
	most    int
	records []record // the oldest one first
	regions []api.Region
	retired []int
	made    int
	fails   bool // the next Alloc does
	freed   bool
}

func (p *plain) used() int {
	n := 0
	for _, r := range p.records {
		n += takes(r.size)
	}
	return n
}

func (p *plain) reserve(size int) (uint64, api.Errno) {
	switch {
	case p.freed, size < 1, size > p.most/2:
		return 0, api.ErrArg
	case p.used()+takes(size) > p.most:
		return 0, api.ErrFull
	case p.fails:
		p.fails = false
		return 0, api.ErrMem
	}
	p.made++
	p.regions = append(p.regions, live(p.made, zeros(size)))
	p.records = append(p.records, record{number: p.made, size: size, held: true})
	return at(p.made), api.OK
}

// region answers the region of that number, which must be there.
func (p *plain) region(number int) *api.Region {
	i := slices.IndexFunc(p.regions, func(r api.Region) bool { return r.Number == number })
	return &p.regions[i]
}

// forget makes the memory have none of the regions of these numbers.
func (p *plain) forget(numbers []int) {
	p.regions = slices.DeleteFunc(p.regions, func(r api.Region) bool { return slices.Contains(numbers, r.Number) })
}

func (p *plain) end(addr uint64, keep bool) api.Errno {
	i := slices.IndexFunc(p.records, func(r record) bool { return r.held && at(r.number) == addr })
	if i < 0 {
		return api.ErrArg
	}
	r := &p.records[i]
	r.held, r.submitted = false, keep
	if keep {
		r.text = p.region(r.number).Bytes
	}
	p.retired = append(p.retired, r.number)
	return api.OK
}

func (p *plain) output(s string) api.Errno {
	addr, err := p.reserve(len(s))
	if err != api.OK {
		return err
	}
	p.region(p.made).Bytes = s
	return p.end(addr, true)
}

func (p *plain) drain() []string {
	var l []string
	for len(p.records) > 0 && !p.records[0].held {
		if p.records[0].submitted {
			l = append(l, p.records[0].text)
		}
		p.records = p.records[1:]
	}
	return l
}

func (p *plain) grace() {
	p.forget(p.retired)
	p.retired = nil
}

func (p *plain) free() api.Errno {
	if p.freed {
		return api.ErrArg
	}
	p.forget(p.held())
	p.records, p.freed = nil, true
	return api.OK
}

// held answers the numbers of the held records' regions.
func (p *plain) held() []int {
	var l []int
	for _, r := range p.records {
		if r.held {
			l = append(l, r.number)
		}
	}
	return l
}

// twins is a ring, and the plain one that it is held against.
type twins struct {
	t *testing.T
	x *ring.Map
	m *kmem.Mem
	p *plain
}

// pairUp makes a ring, and a plain one of as many bytes.
func pairUp(t *testing.T, most int) twins {
	t.Helper()
	x, m := build(t, most)
	return twins{t, x, m, &plain{most: most}}
}

func (w twins) reserve(size int) api.Errno {
	w.t.Helper()
	want, err := w.p.reserve(size)
	wantReserve(w.t, w.x, size, want, err)
	return err
}

// write makes the bytes of the region of that number, if it is live, others.
func (w twins) write(number int, first byte) {
	w.t.Helper()
	for i, r := range w.p.regions {
		if r.Number == number {
			w.p.regions[i].Bytes = row(first, len(r.Bytes))
			put(w.t, w.m, at(number), w.p.regions[i].Bytes)
		}
	}
}

func (w twins) submit(addr uint64) api.Errno {
	w.t.Helper()
	err := w.p.end(addr, true)
	wantSubmit(w.t, w.x, addr, err)
	return err
}

func (w twins) discard(addr uint64) api.Errno {
	w.t.Helper()
	err := w.p.end(addr, false)
	wantDiscard(w.t, w.x, addr, err)
	return err
}

func (w twins) output(s string) api.Errno {
	w.t.Helper()
	err := w.p.output(s)
	wantOutput(w.t, w.x, s, err)
	return err
}

func (w twins) drain() []string {
	w.t.Helper()
	want := w.p.drain()
	wantDrain(w.t, w.x, want...)
	return want
}

func (w twins) grace() {
	w.m.Grace()
	w.p.grace()
}

// fail makes the next Alloc fail.
func (w twins) fail() {
	w.m.Fail(1)
	w.p.fails = true
}

func (w twins) free() {
	w.t.Helper()
	wantErr(w.t, "Free", w.x.Free(), w.p.free())
}

// look holds all that is told without a change against the plain one.
func (w twins) look() {
	w.t.Helper()
	wantUsed(w.t, w.x, w.p.used())
	if w.x.Used() > w.p.most {
		w.t.Errorf("%d bytes of %d are used", w.x.Used(), w.p.most)
	}
	wantRegions(w.t, w.m, w.p.regions...)
}
