package hash

// beforeAll is below every key, and none: a key has a byte at least.
const beforeAll = ""

// entry is what a table has under a key.
type entry struct {
	first uint64 // its region's first address
	used  uint64 // the table's count of uses, when it was used last: no two entries have the same
}

// entries is all that a table has, by the keys.
type entries map[string]*entry

// above answers the least key above key; false, if there is none.
func (l entries) above(key string) (string, bool) {
	least := beforeAll
	for k := range l {
		if k > key && (least == beforeAll || k < least) {
			least = k
		}
	}
	return least, least != beforeAll
}

// leastUsed answers the key of the entry that was used longest ago; there must be one.
func (l entries) leastUsed() string {
	least, used := beforeAll, uint64(0)
	for k, e := range l {
		if least == beforeAll || e.used < used {
			least, used = k, e.used
		}
	}
	return least
}
