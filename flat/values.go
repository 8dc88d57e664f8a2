package flat

import "portcullis/api"

// everyCpu stands for all CPUs in an Update.
const everyCpu = -1

// values is where an array's values lie, whichever kind it is: regions' first addresses.
type values interface {
	// seen answers the region in which a CPU finds its values; false, if there is no such CPU.
	seen(cpu int) (uint64, bool)
	// written answers the regions that an Update of a CPU changes; none, if there is no such CPU.
	written(cpu int) []uint64
	// all answers all regions.
	all() []uint64
}

// lay answers the values of an array of that kind that has those regions.
func lay(kind int, firsts []uint64) values {
	if kind == api.MapCpu {
		return eachCpu{firsts}
	}
	return shared{firsts[0]}
}

// regions answers how many regions an array of that kind has.
func regions(kind, cpus int) int {
	if kind == api.MapCpu {
		return cpus
	}
	return 1
}

// shared is values that all CPUs have together.
type shared struct{ first uint64 }

func (v shared) seen(cpu int) (uint64, bool) { return v.first, true }

func (v shared) written(cpu int) []uint64 { return v.all() }

func (v shared) all() []uint64 { return []uint64{v.first} }

// eachCpu is values of which each CPU has its own: a region for each, in order.
type eachCpu struct{ firsts []uint64 }

func (v eachCpu) seen(cpu int) (uint64, bool) {
	if cpu < 0 || cpu >= len(v.firsts) {
		return 0, false
	}
	return v.firsts[cpu], true
}

func (v eachCpu) written(cpu int) []uint64 {
	if cpu == everyCpu {
		return v.all()
	}
	first, ok := v.seen(cpu)
	if !ok {
		return nil
	}
	return []uint64{first}
}

func (v eachCpu) all() []uint64 { return v.firsts }
