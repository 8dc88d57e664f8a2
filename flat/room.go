package flat

import (
	"portcullis/api"
	"portcullis/kmem"
)

const (
	keyBytes = 4
	mostCpus = 8
	align    = 8 // at a multiple of which each value begins
)

// fits tells whether there may be an array of spec for so many CPUs.
func fits(spec api.MapSpec, cpus int) bool {
	return (spec.Kind == api.MapArray || spec.Kind == api.MapCpu) &&
		spec.Key == keyBytes &&
		spec.Value >= 1 && spec.Value <= api.MaxValue &&
		spec.Max >= 1 && spec.Max <= api.MaxEntries &&
		cpus >= 1 && cpus <= mostCpus &&
		spec.Max*width(spec) <= api.MaxRegion
}

// width answers how many bytes lie from a value's beginning to the next one's.
func width(spec api.MapSpec) int { return (spec.Value + align - 1) / align * align }

// alloc makes count regions of size bytes and answers their first addresses; all of them, or none.
func alloc(m *kmem.Mem, count, size int) ([]uint64, api.Errno) {
	var firsts []uint64
	for range count {
		first, err := m.Alloc(size, api.PermRead|api.PermWrite)
		if err != api.OK {
			free(m, firsts)
			return nil, err
		}
		firsts = append(firsts, first)
	}
	return firsts, api.OK
}

// free frees the regions that begin at firsts.
func free(m *kmem.Mem, firsts []uint64) {
	for _, first := range firsts {
		m.Free(first)
	}
}

// number answers the number that key is, little end first; false, unless it has its 4 bytes.
func number(key string) (uint32, bool) {
	if len(key) != keyBytes {
		return 0, false
	}
	n := uint32(0)
	for i := range keyBytes {
		n |= uint32(key[i]) << (8 * i)
	}
	return n, true
}

// keyOf is number the other way round.
func keyOf(n uint32) string {
	return string([]byte{byte(n), byte(n >> 8), byte(n >> 16), byte(n >> 24)})
}
