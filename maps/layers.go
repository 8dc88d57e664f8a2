package maps

import (
	"portcullis/api"
	"portcullis/flat"
	"portcullis/hash"
	"portcullis/kmem"
	"portcullis/queue"
	"portcullis/ring"
	"portcullis/trie"
)

// build makes the map of the layer whose kind spec's is. What stands beside an error is none, and is not to be kept.
func build(m *kmem.Mem, spec api.MapSpec, cpus int) (any, api.Errno) {
	switch spec.Kind {
	case api.MapArray, api.MapCpu:
		return flat.New(m, spec, cpus)
	case api.MapQueue, api.MapStack:
		return queue.New(spec)
	case api.MapHash, api.MapLru:
		return hash.New(m, spec)
	case api.MapTrie:
		return trie.New(m, spec)
	case api.MapRing:
		return ring.New(m, spec)
	case api.MapProgs:
		return newProgs(spec)
	}
	return nil, api.ErrArg
}

// lookup is Lookup of those layers that have it. Only arrays look at the CPU.
func lookup(own any, key string, cpu int) uint64 {
	switch y := own.(type) {
	case *flat.Map:
		return y.Lookup(key, cpu)
	case *hash.Map:
		return y.Lookup(key)
	case *trie.Map:
		return y.Lookup(key)
	}
	return 0
}

// update is Update of those layers that have it. Only arrays look at the CPU.
func update(own any, key, value string, flags, cpu int) api.Errno {
	switch y := own.(type) {
	case *flat.Map:
		return y.Update(key, value, flags, cpu)
	case *hash.Map:
		return y.Update(key, value, flags)
	case *trie.Map:
		return y.Update(key, value, flags)
	case progs:
		return y.update(key, value, flags)
	}
	return api.ErrArg
}

// remove is Delete of those layers that have it.
func remove(own any, key string) api.Errno {
	switch y := own.(type) {
	case *flat.Map:
		return y.Delete(key)
	case *hash.Map:
		return y.Delete(key)
	case *trie.Map:
		return y.Delete(key)
	case progs:
		return y.remove(key)
	}
	return api.ErrArg
}

// next is Next of those layers that have it.
func next(own any, key string) (string, api.Errno) {
	switch y := own.(type) {
	case *flat.Map:
		return y.Next(key)
	case *hash.Map:
		return y.Next(key)
	case *trie.Map:
		return y.Next(key)
	case progs:
		return y.next(key)
	}
	return "", api.ErrArg
}

// queueOf answers the queue or the stack that own is; else nil, of which every call is ErrArg.
func queueOf(own any) *queue.Map {
	switch y := own.(type) {
	case *queue.Map:
		return y
	}
	return nil
}

// ringOf answers the ring that own is; else nil, of which every call is ErrArg, and nothing is drained.
func ringOf(own any) *ring.Map {
	switch y := own.(type) {
	case *ring.Map:
		return y
	}
	return nil
}

// progsOf answers the programs that own is; else none.
func progsOf(own any) progs {
	switch y := own.(type) {
	case progs:
		return y
	}
	return nil
}

// free is Free of those layers that have it; a freed map's calls are its layer's still.
func (x *Map) free() api.Errno {
	switch y := x.layer().(type) {
	case *flat.Map:
		return y.Free()
	case *hash.Map:
		return y.Free()
	case *trie.Map:
		return y.Free()
	case *ring.Map:
		return y.Free()
	case *queue.Map, progs:
		// These have nothing in memory, and know no Free that would end their calls.
		x.own = nil
		return api.OK
	}
	return api.ErrArg
}
