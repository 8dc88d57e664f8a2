package flat_test

import (
	"math"
	"strings"
	"testing"

	"portcullis/api"
	"portcullis/flat"
	"portcullis/kmem"
)

// grid goes over all values of an array of each kind, for values of several sizes and all counts of CPUs.
func grid(t *testing.T, what func(x *flat.Map, m *kmem.Mem, value, most, cpus int)) {
	t.Helper()
	for _, value := range []int{1, 7, 8, 9, 16, 17} {
		for _, cpus := range []int{1, 2, 8} {
			for _, most := range []int{1, 2, 5} {
				x, m := build(t, spec(api.MapCpu, value, most), cpus)
				what(x, m, value, most, cpus)
			}
		}
		x, m := build(t, spec(api.MapArray, value, 5), 8)
		what(x, m, value, 5, 1)
	}
}

// 8.3: what is written byte by byte at the addresses that Lookup told is there, once all values are written.
func TestWrittenIsThere(t *testing.T) {
	grid(t, func(x *flat.Map, m *kmem.Mem, value, most, cpus int) {
		for cpu := range cpus {
			for n := range most {
				at := x.Lookup(key(n), cpu)
				for i, b := range []byte(noise(8*n+cpu, value)) {
					wantErr(t, "Write", m.Write(at+uint64(i), 1, uint64(b)), api.OK)
				}
			}
		}
		for cpu := range cpus {
			for n := range most {
				wantValue(t, x, m, n, cpu, noise(8*n+cpu, value))
			}
		}
	})
}

// 8.3: what is written within one value's bytes touches no other one's.
func TestNoOtherIsTouched(t *testing.T) {
	grid(t, func(x *flat.Map, m *kmem.Mem, value, most, cpus int) {
		for cpu := range cpus {
			for n := range most {
				wantErr(t, "Put", m.Put(x.Lookup(key(n), cpu), filled(0xff, value)), api.OK)
				for k := range cpus {
					for i := range most {
						want := filled(0, value)
						if k == cpu && i == n {
							want = filled(0xff, value)
						}
						wantValue(t, x, m, i, k, want)
					}
				}
				wantErr(t, "Put", m.Put(x.Lookup(key(n), cpu), filled(0, value)), api.OK)
			}
		}
	})
}

// 8.3: what Update puts is read at Lookup's address, and no byte beside it is another one.
func TestUpdateIsRead(t *testing.T) {
	grid(t, func(x *flat.Map, m *kmem.Mem, value, most, cpus int) {
		clean := strings.Join(contents(m), "")
		for cpu := range cpus {
			for n := range most {
				wantUpdate(t, x, key(n), noise(n+cpu, value), api.UpdateAny, cpu, api.OK)
				wantValue(t, x, m, n, cpu, noise(n+cpu, value))
				wantUpdate(t, x, key(n), filled(0, value), api.UpdateExist, cpu, api.OK)
				if strings.Join(contents(m), "") != clean {
					t.Errorf("value %d of CPU %d: %q are left", n, cpu, contents(m))
				}
			}
		}
	})
}

// 8.3: all CPUs look at the same value of an array.
func TestArrayIsShared(t *testing.T) {
	x, m := build(t, spec(api.MapArray, 9, 3), 8)
	wantUpdate(t, x, key(2), "ninebytes", api.UpdateAny, 7, api.OK)
	for _, cpu := range []int{math.MinInt, -1, 0, 7, 8, math.MaxInt} {
		wantValue(t, x, m, 2, cpu, "ninebytes")
	}
}

// 8.3: two arrays of one memory share no value.
func TestArraysAreApart(t *testing.T) {
	m := kmem.New()
	x := buildIn(t, m, spec(api.MapCpu, 8, 2), 2)
	y := buildIn(t, m, spec(api.MapArray, 8, 2), 2)
	wantUpdate(t, x, key(1), "of two's", api.UpdateAny, -1, api.OK)
	wantUpdate(t, y, key(1), "of one's", api.UpdateAny, -1, api.OK)
	wantContents(t, m, filled(0, 8)+"of two's", filled(0, 8)+"of two's", filled(0, 8)+"of one's")
}

// model is an array as plain as can be: each CPU's bytes.
type model struct {
	kind, value, most, cpus int
	bytes                   map[[2]int]string // by CPU and number
	freed                   bool
}

// cpu answers whose value a CPU looks at; false, if it may not.
func (o *model) cpu(cpu int) (int, bool) {
	if o.kind == api.MapArray {
		return 0, true
	}
	return cpu, cpu >= 0 && cpu < o.cpus
}

// find answers the number of a key; -1, if it is none.
func (o *model) find(k string) int {
	for n := range o.most {
		if key(n) == k {
			return n
		}
	}
	return -1
}

func (o *model) update(k, value string, flags, cpu int) api.Errno {
	who, ok := o.cpu(cpu)
	all := o.kind == api.MapCpu && cpu == -1
	switch n := o.find(k); {
	case o.freed, len(k) != 4, len(value) != o.value, flags < 0, flags > 2, !ok && !all:
		return api.ErrArg
	case n < 0:
		return api.ErrFull
	case flags == 1:
		return api.ErrExists
	case all:
		for c := range o.cpus {
			o.bytes[[2]int{c, n}] = value
		}
	default:
		o.bytes[[2]int{who, n}] = value
	}
	return api.OK
}

func (o *model) next(k string) (string, api.Errno) {
	switch n := o.find(k); {
	case o.freed:
		return "", api.ErrArg
	case n == o.most-1:
		return "", api.ErrNone
	default:
		return key(n + 1), api.OK // of no key -1 is answered, behind which stands the first one
	}
}

func (o *model) free() api.Errno {
	if o.freed {
		return api.ErrArg
	}
	o.freed = true
	return api.OK
}

// drawKey draws keys of which most are those of the array or just past them.
func drawKey(draw func() uint64, most int) string {
	n := int(draw() % uint64(most+2))
	switch draw() % 16 {
	case 0:
		n += 1 << among(draw, 8, 16, 24, 31)
	case 1:
		return key(n)[:draw()%4]
	case 2:
		return key(n) + "\x00"
	}
	return key(n)
}

// 8.2, 8.3: whatever is done one behind the other, an array is as a plain one.
func TestAgainstModel(t *testing.T) {
	draw := draws()
	took, freed, written := map[api.Errno]int{}, 0, 0
	for range 300 {
		o := &model{kind: among(draw, kinds...), value: among(draw, 1, 7, 8, 9, 20), most: 1 + int(draw()%5), cpus: 1 + int(draw()%8), bytes: map[[2]int]string{}}
		x, m := build(t, spec(o.kind, o.value, o.most), o.cpus)
		for range 60 {
			k, cpu := drawKey(draw, o.most), int(draw()%uint64(o.cpus+3))-2
			switch what := draw() % 40; {
			case what == 0:
				wantErr(t, "Free", x.Free(), o.free())
				freed++
			case what < 4:
				wantErr(t, "Delete", x.Delete(k), api.ErrArg)
			case what < 12:
				s, e := o.next(k)
				wantNext(t, x, k, s, e)
			case what < 20:
				if at := wantPlace(t, o, x, k, cpu); at != 0 {
					who, _ := o.cpu(cpu)
					s := noise(int(draw()%1000), o.value)
					wantErr(t, "Put", m.Put(at, s), api.OK)
					o.bytes[[2]int{who, o.find(k)}] = s
					written++
				}
			default:
				value := noise(int(draw()%1000), o.value+among(draw, 0, 0, 0, 0, 0, 0, -1, 1))
				flags := among(draw, 0, 0, 2, 2, 1, -1, 3)
				e := o.update(k, value, flags, cpu)
				wantUpdate(t, x, k, value, flags, cpu, e)
				took[e]++
			}
			wantModel(t, o, x, m)
		}
	}
	for _, e := range []api.Errno{api.OK, api.ErrArg, api.ErrFull, api.ErrExists} {
		if took[e] < 100 {
			t.Errorf("%d Updates told error %d", took[e], e)
		}
	}
	if freed < 100 || written < 100 {
		t.Errorf("%d Frees, %d writes at addresses", freed, written)
	}
}

// wantPlace looks at what Lookup tells, and answers it.
func wantPlace(t *testing.T, o *model, x *flat.Map, k string, cpu int) uint64 {
	t.Helper()
	who, ok := o.cpu(cpu)
	want := uint64(0)
	if n := o.find(k); ok && n >= 0 && !o.freed {
		want = uint64(1+who)*region + uint64(n*((o.value+7)/8*8))
	}
	wantAt(t, x, k, cpu, want)
	return want
}

// wantModel looks at all values.
func wantModel(t *testing.T, o *model, x *flat.Map, m *kmem.Mem) {
	t.Helper()
	if o.freed {
		wantNumbers(t, m)
		return
	}
	for cpu := range o.cpus {
		who, _ := o.cpu(cpu)
		for n := range o.most {
			want, ok := o.bytes[[2]int{who, n}]
			if !ok {
				want = filled(0, o.value)
			}
			wantValue(t, x, m, n, cpu, want)
		}
	}
}
