package maps

import "portcullis/api"

// wordBytes is how many bytes a key and a value of programs have.
const wordBytes = 4

// progs is programs' numbers, each at a number of its own; none at first.
type progs []place

// place is where a program's number may stand; 0 is one, too.
type place struct {
	prog  int
	there bool
}

// newProgs answers as many places as spec has entries.
func newProgs(spec api.MapSpec) (progs, api.Errno) {
	if spec.Key != wordBytes || spec.Value != wordBytes || spec.Max < 1 || spec.Max > api.MaxEntries {
		return nil, api.ErrArg
	}
	return make(progs, spec.Max), api.OK
}

// update makes value's number stand at key's.
func (p progs) update(key, value string, flags int) api.Errno {
	n, ok := number(key)
	prog, isProg := number(value)
	switch {
	case !ok || !isProg || flags < api.UpdateAny || flags > api.UpdateExist:
		return api.ErrArg
	case n >= uint64(len(p)):
		return api.ErrFull
	case p.has(n) && flags == api.UpdateNoExist:
		return api.ErrExists
	case !p.has(n) && flags == api.UpdateExist:
		return api.ErrNone
	}
	p[n] = place{prog: int(prog), there: true}
	return api.OK
}

// remove lets what stands at key's number go.
func (p progs) remove(key string) api.Errno {
	n, ok := number(key)
	switch {
	case !ok:
		return api.ErrArg
	case !p.has(n):
		return api.ErrNone
	}
	p[n] = place{}
	return api.OK
}

// next answers the key of the least number above key's at which a program stands; of the least of all, if key is none.
func (p progs) next(key string) (string, api.Errno) {
	from := uint64(0)
	if n, ok := number(key); ok {
		from = n + 1
	}
	for n := from; n < uint64(len(p)); n++ {
		if p.has(n) {
			return keyOf(n), api.OK
		}
	}
	return "", api.ErrNone
}

// prog answers the program's number that stands at index; false, if there is none.
func (p progs) prog(index int) (int, bool) {
	if index < 0 || !p.has(uint64(index)) {
		return 0, false
	}
	return p[index].prog, true
}

// has tells whether a program stands at n.
func (p progs) has(n uint64) bool { return n < uint64(len(p)) && p[n].there }

// number answers the number that word is, little end first; false, unless it has its 4 bytes.
func number(word string) (uint64, bool) {
	if len(word) != wordBytes {
		return 0, false
	}
	n := uint64(0)
	for i := range wordBytes {
		n |= uint64(word[i]) << (8 * i)
	}
	return n, true
}

// keyOf is number the other way round.
func keyOf(n uint64) string {
	return string([]byte{byte(n), byte(n >> 8), byte(n >> 16), byte(n >> 24)})
}
