package trie_test

import (
	"slices"
	"strings"
	"testing"

	"portcullis/api"
	"portcullis/kmem"
	"portcullis/trie"
)

// bitsOf is a key's bits behind its length, a digit each.
func bitsOf(k string) string {
	var digits []byte
	for i := 4; i < len(k); i++ {
		for n := 128; n > 0; n /= 2 {
			digits = append(digits, '0'+byte(int(k[i])/n%2))
		}
	}
	return string(digits)
}

// lengthOf is a key's length.
func lengthOf(k string) int {
	return int(k[0]) + 256*int(k[1]) + 256*256*int(k[2]) + 256*256*256*int(k[3])
}

// formOf is the key of a prefix's digits, in so many bytes.
func formOf(digits string, size int) string {
	all := digits + filled("0", 8*(size-4)-len(digits))
	var b []byte
	for i := 0; i < len(all); i += 8 {
		n := 0
		for _, digit := range all[i : i+8] {
			n = 2*n + int(digit-'0')
		}
		b = append(b, byte(n))
	}
	return key(uint32(len(digits)), string(b))
}

// plainForm is a key's form.
func plainForm(k string) string { return formOf(bitsOf(k)[:lengthOf(k)], len(k)) }

// chain is the forms of 0 up to most bits of these bytes.
func chain(bytes string, most int) []string {
	var l []string
	for length := range most + 1 {
		l = append(l, plainForm(key(uint32(length), bytes)))
	}
	return l
}

// item is an entry as the chapter says it.
type item struct {
	digits string // its prefix
	number int    // its region's
}

// plain is a table as the chapter says it: a list of entries, in a memory of its own.
type plain struct {
	spec    api.MapSpec
	items   []item
	regions []api.Region
	retired []int
	made    int
	fails   bool // the next Alloc does
	freed   bool
}

// read answers the digits of a key's prefix, and all that it has; false, if it is none.
func (p *plain) read(k string) (prefix, all string, ok bool) {
	if p.freed || len(k) != p.spec.Key || lengthOf(k) > 8*(p.spec.Key-4) {
		return "", "", false
	}
	all = bitsOf(k)
	return all[:lengthOf(k)], all, true
}

// at answers the place of the entry of a prefix; below 0, if there is none.
func (p *plain) at(prefix string) int {
	return slices.IndexFunc(p.items, func(c item) bool { return c.digits == prefix })
}

// forget makes the memory have none of the regions of these numbers.
func (p *plain) forget(numbers []int) {
	p.regions = slices.DeleteFunc(p.regions, func(r api.Region) bool { return slices.Contains(numbers, r.Number) })
}

func (p *plain) lookup(k string) uint64 {
	prefix, all, ok := p.read(k)
	if !ok {
		return 0
	}
	best := item{}
	for _, c := range p.items {
		if len(c.digits) <= len(prefix) && strings.HasPrefix(all, c.digits) && (best.number == 0 || len(c.digits) > len(best.digits)) {
			best = c
		}
	}
	return uint64(best.number) * region
}

func (p *plain) update(k, value string, flags int) api.Errno {
	prefix, _, ok := p.read(k)
	i := p.at(prefix)
	switch {
	case !ok, len(value) != p.spec.Value, flags < 0, flags > 2:
		return api.ErrArg
	case i >= 0 && flags == 1:
		return api.ErrExists
	case i >= 0:
		number := p.items[i].number
		at := slices.IndexFunc(p.regions, func(r api.Region) bool { return r.Number == number })
		p.regions[at].Bytes = value
		return api.OK
	case flags == 2:
		return api.ErrNone
	case len(p.items) == p.spec.Max:
		return api.ErrFull
	case p.fails:
		p.fails = false
		return api.ErrMem
	}
	p.made++
	p.regions = append(p.regions, held(p.made, value))
	p.items = append(p.items, item{prefix, p.made})
	return api.OK
}

func (p *plain) del(k string) api.Errno {
	prefix, _, ok := p.read(k)
	if !ok {
		return api.ErrArg
	}
	i := p.at(prefix)
	if i < 0 {
		return api.ErrNone
	}
	p.retired = append(p.retired, p.items[i].number)
	p.items = slices.Delete(p.items, i, i+1)
	return api.OK
}

func (p *plain) forms() []string {
	var l []string
	for _, c := range p.items {
		l = append(l, formOf(c.digits, p.spec.Key))
	}
	slices.Sort(l)
	return l
}

func (p *plain) next(k string) (string, api.Errno) {
	prefix, _, ok := p.read(k)
	for _, form := range p.forms() {
		if !ok || form > formOf(prefix, p.spec.Key) {
			return form, api.OK
		}
	}
	return "", api.ErrNone
}

func (p *plain) grace() {
	p.forget(p.retired)
	p.retired = nil
}

func (p *plain) free() api.Errno {
	if p.freed {
		return api.ErrArg
	}
	var numbers []int
	for _, c := range p.items {
		numbers = append(numbers, c.number)
	}
	p.forget(numbers)
	p.items, p.freed = nil, true
	return api.OK
}

// twins is a table, and the plain one that it is held against.
type twins struct {
	t *testing.T
	x *trie.Map
	m *kmem.Mem
	p *plain
}

// pairUp makes a table, and a plain one of the same spec.
func pairUp(t *testing.T, s api.MapSpec) twins {
	t.Helper()
	x, m := build(t, s)
	return twins{t, x, m, &plain{spec: s}}
}

func (w twins) lookup(k string) {
	w.t.Helper()
	wantAt(w.t, w.x, k, w.p.lookup(k))
}

func (w twins) update(k, value string, flags int) api.Errno {
	w.t.Helper()
	err := w.p.update(k, value, flags)
	wantUpdate(w.t, w.x, k, value, flags, err)
	return err
}

func (w twins) del(k string) api.Errno {
	w.t.Helper()
	err := w.p.del(k)
	wantDelete(w.t, w.x, k, err)
	return err
}

func (w twins) next(k string) {
	w.t.Helper()
	want, err := w.p.next(k)
	wantNext(w.t, w.x, k, want, err)
}

func (w twins) grace() {
	w.m.Grace()
	w.p.grace()
}

// fail makes the next Alloc fail.
func (w twins) fail() {
	w.m.Fail(1)
	w.p.fails = true
}

func (w twins) free() {
	w.t.Helper()
	wantErr(w.t, "Free", w.x.Free(), w.p.free())
}

// look holds all that is told of these keys, and all that is there, against the plain one.
func (w twins) look(keys []string) {
	w.t.Helper()
	for _, k := range keys {
		w.lookup(k)
	}
	wantForms(w.t, w.x, w.p.forms()...)
	wantRegions(w.t, w.m, w.p.regions...)
}
