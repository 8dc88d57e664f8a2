package trie

import "math/bits"

// head is how many bytes of a key tell its length.
const head = 4

// prefix is a key's first bits.
type prefix struct {
	form   string // the key, all other bits of which are 0
	length int    // how many bits
}

// read answers a key's prefix; false, if key is none of size bytes.
func read(key string, size int) (prefix, bool) {
	if len(key) != size {
		return prefix{}, false
	}
	length := uint32(0)
	for i := range head {
		length |= uint32(key[i]) << (8 * i)
	}
	if length > uint32(8*(size-head)) {
		return prefix{}, false
	}
	return cut(key, int(length)), true
}

// cut answers the prefix of a key's first length bits, whatever length the key tells.
func cut(key string, length int) prefix {
	form := make([]byte, len(key))
	for i := range head {
		form[i] = byte(length >> (8 * i))
	}
	whole := head + length/8
	copy(form[head:], key[head:whole])
	if rest := length % 8; rest > 0 {
		form[whole] = key[whole] &^ (0xff >> rest)
	}
	return prefix{string(form), length}
}

// bit answers the bit behind the first n ones.
func (p prefix) bit(n int) int { return int(p.form[head+n/8]>>(7-n%8)) & 1 }

// same answers how many first bits p and q share; they are known to share the first known ones.
func same(p, q prefix, known int) int {
	most := min(p.length, q.length)
	for n := known - known%8; n < most; n += 8 {
		if d := p.form[head+n/8] ^ q.form[head+n/8]; d != 0 {
			return min(most, n+bits.LeadingZeros8(d))
		}
	}
	return most
}
