package kmem

import (
	"maps"
	"slices"

	"portcullis/api"
)

// whatever is a perm that every region has.
const whatever = 0

// Read answers the number of size bytes at addr, little end first.
func (m *Mem) Read(addr uint64, size int) (uint64, api.Errno) {
	if m == nil || !isSize(size) {
		return 0, api.ErrArg
	}
	b, err := m.find(addr, size, api.PermRead)
	n := uint64(0)
	for i, x := range b {
		n |= uint64(x) << (8 * i)
	}
	return n, err
}

// Write makes the size bytes at addr the lowest ones of n, little end first.
func (m *Mem) Write(addr uint64, size int, n uint64) api.Errno {
	if m == nil || !isSize(size) {
		return api.ErrArg
	}
	b, err := m.find(addr, size, api.PermWrite)
	for i := range b {
		b[i] = byte(n >> (8 * i))
	}
	return err
}

// Bytes answers n bytes at addr, whatever may be done with their region.
func (m *Mem) Bytes(addr uint64, n int) (string, api.Errno) {
	if m == nil || n < 0 || n > api.MaxRegion {
		return "", api.ErrArg
	}
	b, err := m.find(addr, n, whatever)
	return string(b), err
}

// Put makes the bytes at addr those of s, whatever may be done with their region.
func (m *Mem) Put(addr uint64, s string) api.Errno {
	if m == nil || len(s) > api.MaxRegion {
		return api.ErrArg
	}
	b, err := m.find(addr, len(s), whatever)
	copy(b, s)
	return err
}

// Size answers the size of the live region in which addr lies.
func (m *Mem) Size(addr uint64) (int, api.Errno) {
	if m == nil {
		return 0, api.ErrArg
	}
	number, offset := split(addr)
	r, err := m.live(number)
	if err != api.OK {
		return 0, err
	}
	// Of no bytes Bytes takes the offset behind the last one; nothing lies there.
	if uint64(offset) >= uint64(r.size) {
		return 0, api.FaultBound
	}
	return r.size, api.OK
}

// Regions answers the live regions by rising numbers.
func (m *Mem) Regions() []api.Region {
	if m == nil {
		return nil
	}
	var l []api.Region
	for _, number := range slices.Sorted(maps.Keys(m.regions)) {
		r := m.regions[number]
		l = append(l, api.Region{Number: int(number), Perm: r.perm, Bytes: string(r.all())})
	}
	return l
}

// find answers the n bytes at addr themselves, of a region with which perm may be done; none beside a fault.
func (m *Mem) find(addr uint64, n, perm int) ([]byte, api.Errno) {
	number, offset := split(addr)
	r, err := m.live(number)
	if err != api.OK {
		return nil, err
	}
	if r.perm&perm != perm {
		return nil, api.FaultPerm
	}
	end := uint64(offset) + uint64(n)
	if end > uint64(r.size) {
		return nil, api.FaultBound
	}
	return r.all()[offset:end], api.OK
}

// live answers the live region of that number, or the fault.
func (m *Mem) live(number uint32) (*region, api.Errno) {
	if number == 0 || number > m.made {
		return nil, api.FaultNull
	}
	r := m.regions[number]
	if r == nil {
		return nil, api.FaultFreed
	}
	return r, api.OK
}

// all answers a region's bytes themselves. They are made as late as here, because as many regions of as many bytes as may be live would fill 4 GiB.
func (r *region) all() []byte {
	if r.bytes == nil {
		r.bytes = make([]byte, r.size)
	}
	return r.bytes
}

// isSize tells whether a number may have so many bytes.
func isSize(size int) bool { return size == 1 || size == 2 || size == 4 || size == 8 }
