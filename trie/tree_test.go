package trie

import (
	"testing"

	"portcullis/api"
	"portcullis/kmem"
)

// lean looks whether the nodes beneath one begin with its prefix, and whether each is an entry or parts two others; it answers how many entries there are.
func lean(t *testing.T, n *node) int {
	count := 0
	if n.first != 0 {
		count++
	} else if n.kids[0] == nil || n.kids[1] == nil {
		t.Errorf("%x is no entry, and nothing parts at it", n.form)
	}
	for next, kid := range n.kids {
		if kid == nil {
			continue
		}
		if kid.length <= n.length || same(kid.prefix, n.prefix, 0) != n.length || kid.bit(n.length) != next {
			t.Errorf("%x stands beneath %x, by %d", kid.form, n.form, next)
		}
		count += lean(t, kid)
	}
	return count
}

// Whatever comes and goes, nothing is kept but the entries and what parts them.
func TestTreeIsLean(t *testing.T) {
	x, _ := New(kmem.New(), api.MapSpec{Kind: api.MapTrie, Key: 6, Value: 1, Max: 40})
	state := uint32(1)
	for range 20000 {
		state = state*1664525 + 1013904223
		k := string([]byte{byte(state>>8) % 17, 0, 0, 0, byte(state >> 16 & 0x99), byte(state >> 24 & 0xc1)})
		if x.Update(k, "v", api.UpdateNoExist) == api.ErrExists {
			x.Delete(k)
		}
		x.mem.Grace()
		count := 0
		if x.entries.root != nil {
			count = lean(t, x.entries.root)
		}
		if count != x.Len() {
			t.Errorf("%d entries, Len %d", count, x.Len())
		}
		if t.Failed() {
			t.FailNow()
		}
	}
	x.Free()
	if x.entries.root != nil {
		t.Error("a table that was freed keeps entries")
	}
}
