package flat_test

import (
	"math"
	"slices"
	"testing"

	"portcullis/api"
	"portcullis/flat"
	"portcullis/kmem"
)

// 8.2: the chapter's example.
func TestCallsExample(t *testing.T) {
	x, m := build(t, spec(api.MapArray, 4, 2), 1)
	wantAt(t, x, "\x01\x00\x00\x00", 0, region+8)
	wantAt(t, x, "\x02\x00\x00\x00", 0, 0)
	wantUpdate(t, x, "\x02\x00\x00\x00", "abcd", api.UpdateAny, 0, api.ErrFull)
	wantUpdate(t, x, "\x01\x00\x00\x00", "abcd", api.UpdateAny, 0, api.OK)
	wantValue(t, x, m, 1, 0, "abcd")
	wantNext(t, x, "", "\x00\x00\x00\x00", api.OK)
	wantNext(t, x, "\x00\x00\x00\x00", "\x01\x00\x00\x00", api.OK)
	wantNext(t, x, "\x01\x00\x00\x00", "", api.ErrNone)
}

// 8.2: Lookup's keys have 4 bytes, and are below Max.
func TestLookupKeys(t *testing.T) {
	for _, kind := range kinds {
		for _, most := range []int{1, 2, 3, 255, 256, 257, api.MaxEntries} {
			x, _ := build(t, spec(kind, 5, most), 1)
			for n := range most {
				wantAt(t, x, key(n), 0, region+uint64(8*n))
			}
			for _, n := range []int{most, most + 1, most + 256, 1 << 12, 1 << 16, 1 << 24, 1 << 31, 1<<31 - 1, 1<<32 - 2, 1<<32 - 1} {
				wantAt(t, x, key(n), 0, 0)
			}
			for _, k := range notKeys {
				wantAt(t, x, k, 0, 0)
			}
		}
	}
}

// 8.2: each byte of a key plays its part.
func TestKeyBytes(t *testing.T) {
	for _, kind := range kinds {
		x, _ := build(t, spec(kind, 8, api.MaxEntries), 1)
		wantAt(t, x, "\x34\x02\x00\x00", 0, region+8*0x234)
		wantAt(t, x, "\x02\x0f\x00\x00", 0, region+8*0xf02)
		wantAt(t, x, "\xff\x00\x00\x00", 0, region+8*0xff)
		wantAt(t, x, "\x00\x01\x00\x00", 0, region+8*0x100)
		for bit := range 32 {
			want := uint64(0)
			if 1<<bit < api.MaxEntries {
				want = region + 8<<bit
			}
			wantAt(t, x, key(1<<bit), 0, want)
			err := api.ErrFull
			if want != 0 {
				err = api.OK
			}
			wantUpdate(t, x, key(1<<bit), "12345678", api.UpdateAny, 0, err)
			next := key(0)
			if want != 0 {
				next = key(1<<bit + 1)
			}
			wantNext(t, x, key(1<<bit), next, api.OK)
		}
	}
}

// 8.2: to an array any CPU is the same; of one for each CPU Lookup takes 0 to below cpus.
func TestLookupCpus(t *testing.T) {
	for cpus := 1; cpus <= 8; cpus++ {
		one, _ := build(t, spec(api.MapArray, 8, 2), cpus)
		each, _ := build(t, spec(api.MapCpu, 8, 2), cpus)
		for _, cpu := range []int{math.MinInt, -2, -1, 0, 1, cpus - 1, cpus, cpus + 1, 8, 1 << 32, math.MaxInt} {
			wantAt(t, one, key(1), cpu, region+8)
			wantAt(t, one, key(2), cpu, 0)
			want := uint64(0)
			if cpu >= 0 && cpu < cpus {
				want = uint64(1+cpu)*region + 8
			}
			wantAt(t, each, key(1), cpu, want)
			wantAt(t, each, key(2), cpu, 0)
		}
	}
}

// 8.2: Update's CPU is any one of an array; of one for each CPU it is one of them, or -1.
func TestUpdateCpus(t *testing.T) {
	for cpus := 1; cpus <= 8; cpus++ {
		for _, cpu := range []int{math.MinInt, -2, -1, 0, 1, cpus - 1, cpus, cpus + 1, 8, 1 << 32, math.MaxInt} {
			one, m := build(t, spec(api.MapArray, 9, 2), cpus)
			wantUpdate(t, one, key(1), "ninebytes", api.UpdateAny, cpu, api.OK)
			wantContents(t, m, filled(0, 16)+"ninebytes"+filled(0, 7))

			each, m := build(t, spec(api.MapCpu, 9, 2), cpus)
			want := slices.Repeat([]string{filled(0, 32)}, cpus)
			err := api.ErrArg
			for k := range want {
				if cpu == -1 || cpu == k {
					err, want[k] = api.OK, filled(0, 16)+"ninebytes"+filled(0, 7)
				}
			}
			wantUpdate(t, each, key(1), "ninebytes", api.UpdateAny, cpu, err)
			wantContents(t, m, want...)
		}
	}
}

// 8.2: an Update writes over what was there, and leaves the values beside it.
func TestUpdateOver(t *testing.T) {
	x, m := build(t, spec(api.MapArray, 3, 3), 1)
	for n, s := range []string{"abc", "def", "ghi"} {
		wantUpdate(t, x, key(n), s, api.UpdateAny, 0, api.OK)
	}
	wantUpdate(t, x, key(1), "\x00\xff\n", api.UpdateExist, 0, api.OK)
	wantContents(t, m, "abc\x00\x00\x00\x00\x00\x00\xff\n\x00\x00\x00\x00\x00ghi\x00\x00\x00\x00\x00")

	x, m = build(t, spec(api.MapCpu, 8, 1), 3)
	wantUpdate(t, x, key(0), "every of", api.UpdateAny, -1, api.OK)
	wantUpdate(t, x, key(0), "them but", api.UpdateExist, 1, api.OK)
	wantContents(t, m, "every of", "them but", "every of")
	wantUpdate(t, x, key(0), "all over", api.UpdateExist, -1, api.OK)
	wantContents(t, m, "all over", "all over", "all over")
}

// 8.2: a value has just Value bytes.
func TestUpdateValues(t *testing.T) {
	for _, kind := range kinds {
		for _, value := range []int{1, 2, 7, 8, 9, 16, api.MaxValue} {
			x, m := build(t, spec(kind, value, 2), 2)
			before := contents(m)
			for _, n := range []int{0, value - 1, value + 1, value + 8, 2 * value, (value + 7) / 8 * 8} {
				if n != value {
					wantUpdate(t, x, key(0), filled('x', n), api.UpdateAny, 0, api.ErrArg)
					wantUpdate(t, x, key(0), filled('x', n), api.UpdateAny, -1, api.ErrArg)
				}
			}
			wantContents(t, m, before...)
			wantUpdate(t, x, key(1), filled('x', value), api.UpdateAny, 0, api.OK)
			wantValue(t, x, m, 1, 0, filled('x', value))
		}
	}
}

// 8.2: flags are 0 to 2; a value is always there, so that UpdateNoExist is refused and UpdateExist is not.
func TestUpdateFlags(t *testing.T) {
	for _, kind := range kinds {
		for _, cpu := range []int{-1, 0, 1} {
			for _, c := range []struct {
				flags int
				want  api.Errno
			}{
				{math.MinInt, api.ErrArg},
				{-1, api.ErrArg},
				{api.UpdateAny, api.OK},
				{api.UpdateNoExist, api.ErrExists},
				{api.UpdateExist, api.OK},
				{3, api.ErrArg},
				{4, api.ErrArg},
				{1 << 32, api.ErrArg},
				{math.MaxInt, api.ErrArg},
			} {
				x, m := build(t, spec(kind, 4, 2), 2)
				before := contents(m)
				wantUpdate(t, x, key(1), "wxyz", c.flags, cpu, c.want)
				if c.want != api.OK {
					wantContents(t, m, before...)
					continue
				}
				wantValue(t, x, m, 1, max(cpu, 0), "wxyz")
			}
		}
	}
}

// 8.2: of several errors ErrArg is told ahead, then ErrFull, then ErrExists; none of them changes a value.
func TestUpdateOrder(t *testing.T) {
	for _, kind := range kinds {
		x, m := build(t, spec(kind, 4, 2), 2)
		before := contents(m)
		for _, k := range append([]string{key(0), key(1), key(2), key(1<<32 - 1)}, notKeys...) {
			for _, value := range []string{"", "abc", "abcd", "abcde"} {
				for flags := -1; flags <= 3; flags++ {
					for cpu := -2; cpu <= 2; cpu++ {
						wrong := len(k) != 4 || len(value) != 4 || flags == -1 || flags == 3 || kind == api.MapCpu && (cpu == -2 || cpu == 2)
						switch {
						case wrong:
							wantUpdate(t, x, k, value, flags, cpu, api.ErrArg)
						case k >= key(2):
							wantUpdate(t, x, k, value, flags, cpu, api.ErrFull)
						case flags == api.UpdateNoExist:
							wantUpdate(t, x, k, value, flags, cpu, api.ErrExists)
						}
					}
				}
			}
		}
		wantContents(t, m, before...)
	}
}

// 8.2: no key is deleted.
func TestDelete(t *testing.T) {
	for _, kind := range kinds {
		x, m := build(t, spec(kind, 4, 2), 2)
		wantUpdate(t, x, key(0), "abcd", api.UpdateAny, -1, api.OK)
		before := contents(m)
		for _, k := range append([]string{key(0), key(1), key(2), key(1<<32 - 1)}, notKeys...) {
			wantErr(t, "Delete", x.Delete(k), api.ErrArg)
		}
		wantContents(t, m, before...)
		wantValue(t, x, m, 0, 0, "abcd")
	}
}

// 8.2: Next goes from no key over all keys to the last one, and from what is no key of the array to the first one.
func TestNext(t *testing.T) {
	for _, kind := range kinds {
		for _, most := range []int{1, 2, 255, 256, 257, api.MaxEntries} {
			x, _ := build(t, spec(kind, 8, most), 2)
			for n := range most - 1 {
				wantNext(t, x, key(n), key(n+1), api.OK)
			}
			wantNext(t, x, key(most-1), "", api.ErrNone)
			for _, n := range []int{most, most + 1, 1 << 16, 1 << 24, 1 << 31, 1<<32 - 2, 1<<32 - 1} {
				wantNext(t, x, key(n), key(0), api.OK)
			}
			for _, k := range notKeys {
				wantNext(t, x, k, key(0), api.OK)
			}
			wantNext(t, x, key(most-1)+"\x00", key(0), api.OK)
			wantNext(t, x, key(most - 1)[:3], key(0), api.OK)
		}
	}
}

// 8.2: Free frees the array's regions alone; afterwards Lookup is 0, and all else ErrArg.
func TestFree(t *testing.T) {
	m := kmem.New()
	m.Alloc(8, both)
	one := buildIn(t, m, spec(api.MapArray, 8, 2), 4)
	each := buildIn(t, m, spec(api.MapCpu, 8, 2), 4)
	other := buildIn(t, m, spec(api.MapCpu, 8, 2), 2)
	wantNumbers(t, m, 1, 2, 3, 4, 5, 6, 7, 8)
	wantErr(t, "Free", each.Free(), api.OK)
	wantNumbers(t, m, 1, 2, 7, 8)
	wantGone(t, each, 8)
	wantErr(t, "Free", one.Free(), api.OK)
	wantNumbers(t, m, 1, 7, 8)
	wantGone(t, one, 8)
	wantAt(t, other, key(1), 1, 8*region+8)
	wantUpdate(t, other, key(1), "as it is", api.UpdateAny, 1, api.OK)
	wantValue(t, other, m, 1, 1, "as it is")
	// a new array's regions are none of those that were
	last := buildIn(t, m, spec(api.MapArray, 8, 2), 1)
	wantAt(t, last, key(0), 0, 9*region)
	wantGone(t, each, 8)
	wantNumbers(t, m, 1, 7, 8, 9)
}

// 8.2: on nil Lookup is 0, and all else ErrArg.
func TestNil(t *testing.T) {
	var x *flat.Map
	wantGone(t, x, 0)
	wantGone(t, x, 8)
}

// R1: a region that somebody else has freed makes no call panic, and leaves the other CPUs' values as they were (R2).
func TestRegionFreedByOthers(t *testing.T) {
	for _, kind := range kinds {
		x, m := build(t, spec(kind, 8, 2), 3)
		last := x.Lookup(key(0), 2)
		wantErr(t, "Free of a region", m.Free(last), api.OK)
		before := contents(m)
		wantAt(t, x, key(0), 2, last)
		wantUpdate(t, x, key(0), "one byte", api.UpdateAny, 2, api.FaultFreed)
		wantUpdate(t, x, key(0), "one byte", api.UpdateAny, -1, api.FaultFreed)
		wantContents(t, m, before...)
		wantNext(t, x, key(0), key(1), api.OK)
		wantErr(t, "Free", x.Free(), api.OK)
		wantNumbers(t, m)
		wantGone(t, x, 8)
	}
}
