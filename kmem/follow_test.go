package kmem_test

import (
	"slices"
	"strings"
	"testing"

	"portcullis/api"
	"portcullis/kmem"
)

// 2.4: what was written is read byte by byte, until something else is written over it.
func TestWrittenIsRead(t *testing.T) {
	m := kmem.New()
	a := alloc(t, m, 16, both)
	b := alloc(t, m, 16, both)
	wantErr(t, "Write", m.Write(a+2, 8, 0x1122334455667788), api.OK)
	put(t, m, b, "0123456789abcdef")
	wantErr(t, "Write over it", m.Write(a+4, 2, 0xaabb), api.OK)
	wantErr(t, "Put over it", m.Put(a+9, "zz"), api.OK)
	for i, want := range []byte("\x00\x00\x88\x77\xbb\xaa\x44\x33\x22zz\x00\x00\x00\x00\x00") {
		if n, e := m.Read(a+uint64(i), 1); n != uint64(want) || e != api.OK {
			t.Errorf("byte %d: %#x, error %d; want %#x", i, n, e, want)
		}
	}
	if s, _ := m.Bytes(b, 16); s != "0123456789abcdef" {
		t.Errorf("another region: %q", s)
	}
}

// 2.4: a fault and a refusal change nothing, not even the bytes that lie within.
func TestFaultChangesNothing(t *testing.T) {
	m := faulty(t)
	before := m.Regions()
	for _, c := range faultCases {
		if c.write != api.OK {
			m.Write(c.addr, c.n, 0x7878787878787878)
		}
		if c.bytes != api.OK {
			m.Put(c.addr, strings.Repeat("x", c.n))
		}
		if after := m.Regions(); !slices.Equal(after, before) {
			t.Fatalf("%d bytes to %#x: %#v became %#v", c.n, c.addr, before, after)
		}
	}
	m.Put(at(1, 0), strings.Repeat("x", api.MaxRegion+1))
	for _, size := range badSizes {
		m.Write(at(1, 0), size, 0)
	}
	wantRegions(t, m, before...)
}

// 2.4: no address of a freed region is ever one of another, and a new region begins with zeros.
func TestFreedAddressesStayFreed(t *testing.T) {
	m := kmem.New()
	var gone []uint64
	for i := range 200 {
		a := alloc(t, m, 8, both)
		if s, e := m.Bytes(a, 8); s != "\x00\x00\x00\x00\x00\x00\x00\x00" || e != api.OK {
			t.Fatalf("region %d is new with %q, error %d", i+1, s, e)
		}
		put(t, m, a, "leftover")
		for _, old := range gone {
			if old == a {
				t.Fatalf("%#x comes twice", a)
			}
			_, e := m.Read(old, 8)
			wantErr(t, "Read of a freed one", e, api.FaultFreed)
			wantErr(t, "Write to a freed one", m.Write(old, 8, 0), api.FaultFreed)
		}
		if i%3 == 0 {
			m.Retire(a)
			m.Grace()
		} else {
			m.Free(a)
		}
		gone = append(gone, a)
	}
	wantRegions(t, m)
}

// model is a memory as plain as can be: bytes by their addresses.
type model struct {
	bytes         map[uint64]byte
	live, retired map[int]int // a region's size by its number
	perms         map[int]int
	made          int
}

func (o *model) alloc(size, perm int) {
	o.made++
	o.live[o.made], o.perms[o.made] = size, perm
	for i := range size {
		o.bytes[at(o.made, i)] = 0
	}
}

func (o *model) free(number int) bool {
	_, ok := o.live[number]
	for i := range o.live[number] {
		delete(o.bytes, at(number, i))
	}
	delete(o.live, number)
	delete(o.retired, number)
	return ok
}

func (o *model) retire(number int) bool {
	size, ok := o.live[number]
	if _, twice := o.retired[number]; !ok || twice {
		return false
	}
	o.retired[number] = size
	return true
}

func (o *model) grace() {
	for number := range o.retired {
		o.free(number)
	}
}

func (o *model) write(addr uint64, size int, n uint64) bool {
	for i := range size {
		if _, ok := o.bytes[addr+uint64(i)]; !ok || o.perms[int(addr>>32)]&api.PermWrite == 0 {
			return false
		}
	}
	for i := range size {
		o.bytes[addr+uint64(i)] = byte(n >> (8 * i))
	}
	return true
}

func (o *model) regions() []api.Region {
	var l []api.Region
	for number := 1; number <= o.made; number++ {
		size, ok := o.live[number]
		if !ok {
			continue
		}
		b := make([]byte, size)
		for i := range b {
			b[i] = o.bytes[at(number, i)]
		}
		l = append(l, api.Region{Number: number, Perm: o.perms[number], Bytes: string(b)})
	}
	return l
}

// 2.4: whatever is done one behind the other, the memory is as a plain one.
func TestAgainstModel(t *testing.T) {
	m := kmem.New()
	o := &model{bytes: map[uint64]byte{}, live: map[int]int{}, retired: map[int]int{}, perms: map[int]int{}}
	seed := uint64(1)
	draw := func(n int) int {
		seed = seed*6364136223846793005 + 1442695040888963407
		return int(seed>>33) % n
	}
	for step := range 4000 {
		number := 1 + draw(o.made+2)
		var got, want bool
		switch draw(8) {
		case 0:
			size, perm := 1+draw(20), 1+draw(3)
			o.alloc(size, perm)
			got, want = alloc(t, m, size, perm) == at(o.made, 0), true
		case 1:
			got, want = m.Free(at(number, 0)) == api.OK, o.free(number)
		case 2:
			got, want = m.Retire(at(number, 0)) == api.OK, o.retire(number)
		case 3:
			if draw(4) == 0 {
				m.Grace()
				o.grace()
			}
		default:
			addr, size, n := at(number, draw(22)), 1<<draw(4), seed
			got, want = m.Write(addr, size, n) == api.OK, o.write(addr, size, n)
		}
		if got != want {
			t.Fatalf("step %d: taken %v; want %v", step, got, want)
		}
		if l := m.Regions(); !slices.Equal(l, o.regions()) {
			t.Fatalf("step %d: %#v; want %#v", step, l, o.regions())
		}
	}
}
