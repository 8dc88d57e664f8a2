package maps_test

import (
	"math"
	"strconv"
	"testing"

	"portcullis/api"
	"portcullis/maps"
)

// progs makes a map of programs with so many places.
func progs(t *testing.T, most int) *maps.Map {
	t.Helper()
	x, _ := build(t, api.MapSpec{Kind: api.MapProgs, Key: 4, Value: 4, Max: most})
	return x
}

// notWords is what hasn't 4 bytes.
var notWords = []string{"", "\x00", "\x00\x00\x00", "\x01\x00\x00", "\x00\x00\x00\x00\x00", "\x01\x00\x00\x00\x00", "\x00\x00\x00\x00\x00\x00\x00\x00"}

// wantProgs looks whether just these numbers have a program, each its number and 100 more; by Next and by Prog.
func wantProgs(t *testing.T, x *maps.Map, numbers ...int) {
	t.Helper()
	k := ""
	at := 0
	for _, n := range numbers {
		for ; at < n; at++ {
			wantProg(t, x, at, 0, false)
		}
		wantProg(t, x, n, n+100, true)
		at++
		wantNext(t, x, k, key(n), api.OK)
		k = key(n)
	}
	for ; at <= x.Spec().Max; at++ {
		wantProg(t, x, at, 0, false)
	}
	wantNext(t, x, k, "", api.ErrNone)
}

// setProgs makes these numbers have a program each, its number and 100 more.
func setProgs(t *testing.T, x *maps.Map, numbers ...int) {
	t.Helper()
	for _, n := range numbers {
		wantUpdate(t, x, key(n), key(n+100), api.UpdateAny, 0, api.OK)
	}
}

// 13.3: the chapter's example.
func TestProgsExample(t *testing.T) {
	x := progs(t, 2)
	wantUpdate(t, x, "\x01\x00\x00\x00", "\x07\x00\x00\x00", api.UpdateAny, 0, api.OK)
	wantProg(t, x, 1, 7, true)
	wantProg(t, x, 0, 0, false)
}

// 13.3: each number below Max has a program or none, at first none.
func TestProgsNumbers(t *testing.T) {
	for _, most := range []int{1, 2, 3, 255, 256, 257, api.MaxEntries} {
		x := progs(t, most)
		wantProgs(t, x)
		setProgs(t, x, most-1)
		wantProgs(t, x, most-1)
		setProgs(t, x, 0)
		if most > 1 {
			wantProgs(t, x, 0, most-1)
		}
		for _, n := range []int{most, most + 1, most + 256, 1 << 16, 1 << 24, 1<<31 - 1, 1 << 31, 1<<32 - 1} {
			for _, flags := range []int{api.UpdateAny, api.UpdateNoExist, api.UpdateExist} {
				wantUpdate(t, x, key(n), key(7), flags, 0, api.ErrFull)
			}
			wantDelete(t, x, key(n), api.ErrNone)
			wantProg(t, x, n, 0, false)
		}
		if most > 1 {
			wantProgs(t, x, 0, most-1)
		}
	}
}

// 13.3: each byte of a key and of a value plays its part, the first one the least.
func TestProgsBytes(t *testing.T) {
	x := progs(t, api.MaxEntries)
	wantUpdate(t, x, "\x34\x02\x00\x00", "\x01\x02\x03\x04", api.UpdateAny, 0, api.OK)
	wantProg(t, x, 0x234, 0x04030201, true)
	wantNext(t, x, "", "\x34\x02\x00\x00", api.OK)
	wantUpdate(t, x, "\xff\x0f\x00\x00", "\xff\xff\xff\xff", api.UpdateAny, 0, api.OK)
	wantProg(t, x, 0xfff, math.MaxUint32, true)
	wantNext(t, x, "\x34\x02\x00\x00", "\xff\x0f\x00\x00", api.OK)
	for bit := range 32 {
		wantUpdate(t, x, key(5), key(1<<bit), api.UpdateAny, 0, api.OK)
		wantProg(t, x, 5, 1<<bit, true)
		err := api.ErrFull
		if 1<<bit < api.MaxEntries {
			err = api.OK
		}
		wantUpdate(t, x, key(1<<bit), key(bit), api.UpdateAny, 0, err)
		if err == api.OK {
			wantProg(t, x, 1<<bit, bit, true)
		}
	}
}

// 13.3: a program's number 0 is one like any other.
func TestProgZero(t *testing.T) {
	x := progs(t, 2)
	wantUpdate(t, x, key(1), key(0), api.UpdateExist, 0, api.ErrNone)
	wantUpdate(t, x, key(1), key(0), api.UpdateNoExist, 0, api.OK)
	wantProg(t, x, 1, 0, true)
	wantProg(t, x, 0, 0, false)
	wantNext(t, x, "", key(1), api.OK)
	wantUpdate(t, x, key(1), key(0), api.UpdateNoExist, 0, api.ErrExists)
	wantUpdate(t, x, key(1), key(0), api.UpdateExist, 0, api.OK)
	wantProg(t, x, 1, 0, true)
	wantDelete(t, x, key(1), api.OK)
	wantProg(t, x, 1, 0, false)
	wantDelete(t, x, key(1), api.ErrNone)
}

// 13.3: what flags do where there is a program and where there is none.
func TestProgsFlags(t *testing.T) {
	for _, c := range []struct {
		flags       int
		there, none api.Errno
	}{
		{math.MinInt, api.ErrArg, api.ErrArg},
		{-1, api.ErrArg, api.ErrArg},
		{api.UpdateAny, api.OK, api.OK},
		{api.UpdateNoExist, api.ErrExists, api.OK},
		{api.UpdateExist, api.OK, api.ErrNone},
		{3, api.ErrArg, api.ErrArg},
		{4, api.ErrArg, api.ErrArg},
		{1 << 32, api.ErrArg, api.ErrArg},
		{math.MaxInt, api.ErrArg, api.ErrArg},
	} {
		x := progs(t, 2)
		setProgs(t, x, 1)
		wantUpdate(t, x, key(1), key(7), c.flags, 0, c.there)
		if c.there == api.OK {
			wantProg(t, x, 1, 7, true)
		} else {
			wantProg(t, x, 1, 101, true)
		}
		wantUpdate(t, x, key(0), key(7), c.flags, 0, c.none)
		if c.none == api.OK {
			wantProg(t, x, 0, 7, true)
		} else {
			wantProg(t, x, 0, 0, false)
		}
	}
}

// 13.3: the CPU plays no part.
func TestProgsCpu(t *testing.T) {
	x := progs(t, 2)
	for i, cpu := range anyCpus {
		wantUpdate(t, x, key(1), key(i), api.UpdateAny, cpu, api.OK)
		wantProg(t, x, 1, i, true)
		wantUpdate(t, x, key(2), key(i), api.UpdateAny, cpu, api.ErrFull)
		wantAt(t, x, key(1), cpu, 0)
	}
}

// 13.3: of several errors ErrArg is told ahead, then ErrFull, then ErrExists and ErrNone; none of them changes a thing.
func TestProgsOrder(t *testing.T) {
	x := progs(t, 2)
	setProgs(t, x, 1)
	for _, k := range append([]string{key(0), key(1), key(2), key(math.MaxUint32)}, notWords...) {
		for _, v := range append([]string{key(0), key(7), key(math.MaxUint32)}, notWords...) {
			for flags := -2; flags <= 4; flags++ {
				want := api.OK
				switch {
				case len(k) != 4 || len(v) != 4 || flags < 0 || flags > 2:
					want = api.ErrArg
				case k != key(0) && k != key(1):
					want = api.ErrFull
				case k == key(1) && flags == api.UpdateNoExist:
					want = api.ErrExists
				case k == key(0) && flags == api.UpdateExist:
					want = api.ErrNone
				}
				if want != api.OK {
					wantUpdate(t, x, k, v, flags, 0, want)
				}
			}
		}
	}
	wantProgs(t, x, 1)
}

// 13.3: Delete takes 4 bytes alone, and lets go what is there, nothing else.
func TestProgsDelete(t *testing.T) {
	x := progs(t, 5)
	setProgs(t, x, 0, 1, 3, 4)
	for _, k := range notWords {
		wantDelete(t, x, k, api.ErrArg)
	}
	for _, n := range []int{2, 5, 6, 1 << 8, 1<<8 + 1, 1<<16 + 1, 1<<24 + 1, 1 << 31, math.MaxUint32} {
		wantDelete(t, x, key(n), api.ErrNone)
	}
	wantProgs(t, x, 0, 1, 3, 4)
	wantDelete(t, x, key(1), api.OK)
	wantDelete(t, x, key(1), api.ErrNone)
	wantProgs(t, x, 0, 3, 4)
	wantDelete(t, x, key(4), api.OK)
	wantProgs(t, x, 0, 3)
	wantDelete(t, x, key(0), api.OK)
	wantDelete(t, x, key(3), api.OK)
	wantProgs(t, x)
	wantUpdate(t, x, key(1), key(101), api.UpdateExist, 0, api.ErrNone)
	wantUpdate(t, x, key(1), key(101), api.UpdateNoExist, 0, api.OK)
	wantProgs(t, x, 1)
}

// 13.3: Next goes on from any key of 4 bytes, whether there is a program or not, and begins with the first one of all others.
func TestProgsNext(t *testing.T) {
	x := progs(t, 300)
	for _, k := range append([]string{key(0), key(299), key(math.MaxUint32)}, notWords...) {
		wantNext(t, x, k, "", api.ErrNone)
	}
	setProgs(t, x, 2, 5, 256, 298)
	for from := range 300 {
		switch {
		case from < 2:
			wantNext(t, x, key(from), key(2), api.OK)
		case from < 5:
			wantNext(t, x, key(from), key(5), api.OK)
		case from < 256:
			wantNext(t, x, key(from), key(256), api.OK)
		case from < 298:
			wantNext(t, x, key(from), key(298), api.OK)
		default:
			wantNext(t, x, key(from), "", api.ErrNone)
		}
	}
	for _, n := range []int{300, 301, 1 << 16, 1 << 24, 1 << 31, 1<<31 - 1, math.MaxUint32 - 1, math.MaxUint32} {
		wantNext(t, x, key(n), "", api.ErrNone)
	}
	for _, k := range append(notWords, key(5)+"\x00", key(298)[:3], key(298)+key(298)) {
		wantNext(t, x, k, key(2), api.OK)
	}
	setProgs(t, x, 0)
	wantNext(t, x, "", key(0), api.OK)
	wantNext(t, x, key(0), key(2), api.OK)
}

// 13.3: Lookup tells no address, whether there is a program or not.
func TestProgsLookup(t *testing.T) {
	x, m := build(t, sample(api.MapProgs))
	setProgs(t, x, 1)
	for _, k := range append([]string{key(0), key(1), key(2)}, notWords...) {
		for _, cpu := range anyCpus {
			wantAt(t, x, k, cpu, 0)
		}
	}
	wantProgs(t, x, 1)
	wantRegions(t, m)
}

// 13.3: Prog takes any index; maps of other kinds have no programs, whatever is in them.
func TestProg(t *testing.T) {
	for _, s := range samples {
		x, _ := build(t, s)
		there := s.Kind == api.MapProgs
		x.Update(key(1), key(7)[:s.Value], api.UpdateAny, 0)
		x.Push(key(7)[:s.Value], 0)
		for _, index := range []int{math.MinInt, -1 << 32, -2, -1, 0, 2, 3, 4096, 1 << 31, 1<<32 - 1, 1 << 32, 1<<32 + 1, math.MaxInt} {
			wantProg(t, x, index, 0, false)
		}
		if there {
			wantProg(t, x, 1, 7, true)
		} else {
			wantProg(t, x, 1, 0, false)
		}
	}
}

// 13.3: all runs of five calls that change something of two programs' places, held against the plain ones.
func TestProgsAllRuns(t *testing.T) {
	type move struct {
		name string
		ask  asked
	}
	var moves []move
	for n := range 3 {
		for flags := range 3 {
			moves = append(moves, move{"update", asked{call: "Update", key: key(n), value: key(flags), n: flags}})
		}
		moves = append(moves, move{"delete", asked{call: "Delete", key: key(n)}})
	}
	s := sample(api.MapProgs)
	for run := range len(moves) * len(moves) * len(moves) * len(moves) * len(moves) {
		// A run of five of the moves is a number of five digits.
		x, _ := build(t, s)
		w := newTwin(t, s)
		text := ""
		for left, i := run, 0; i < 5; i, left = i+1, left/len(moves) {
			v := moves[left%len(moves)]
			text += " " + v.name + strconv.Quote(v.ask.key) + strconv.Itoa(v.ask.n)
			if got, want := ask(x, v.ask), w.ask(v.ask); got != want {
				t.Fatalf("%s: %s; want %s", text, got, want)
			}
		}
		for n := -1; n <= 2; n++ {
			for _, call := range []string{"Next", "Prog"} {
				a := asked{call: call, key: key(n), n: n}
				if n < 0 {
					a.key = ""
				}
				if got, want := ask(x, a), w.ask(a); got != want {
					t.Fatalf("%s: %s(%d): %s; want %s", text, call, n, got, want)
				}
			}
		}
	}
}
