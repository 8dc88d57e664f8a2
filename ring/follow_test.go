package ring_test

import (
	"slices"
	"testing"

	"portcullis/api"
	"portcullis/kmem"
)

// moves is what a short run is made of; n is another number at each place of a run.
var moves = []func(w twins, n int){
	func(w twins, n int) {
		w.reserve(1 + n)
		w.write(w.p.made, byte(n))
	},
	func(w twins, n int) { w.reserve(17 + n) },
	func(w twins, n int) { w.output(row(byte(20*n), 4+3*n)) },
	func(w twins, n int) { w.submit(w.addr(0)) },
	func(w twins, n int) { w.submit(w.addr(-1)) },
	func(w twins, n int) { w.discard(w.addr(0)) },
	func(w twins, n int) { w.discard(w.addr(-1)) },
	func(w twins, n int) { w.drain() },
}

// addr answers the address of a held record: of the i-th one, or, below 0, from the newest one on; 0, if there is none.
func (w twins) addr(i int) uint64 {
	held := w.p.held()
	if i < 0 {
		i += len(held)
	}
	if i < 0 || i >= len(held) {
		return 0
	}
	return at(held[i])
}

// 12.3: whatever six moves are done one behind the other, the ring tells what the plain one tells, and all of it at the end.
func TestAllShortRuns(t *testing.T) {
	const deep = 6
	runs := 1
	for range deep {
		runs *= len(moves)
	}
	for run := range runs {
		w := pairUp(t, 64)
		for n, rest := 0, run; n < deep; n, rest = n+1, rest/len(moves) {
			moves[rest%len(moves)](w, n)
			wantUsed(t, w.x, w.p.used())
		}
		w.look()
		for w.addr(0) != 0 {
			w.submit(w.addr(-1))
		}
		w.drain()
		w.look()
		if t.Failed() {
			t.Fatalf("run %o", run)
		}
	}
}

// draws answers a row of numbers that hangs on nothing.
func draws() func(below int) int {
	state := uint64(12)
	return func(below int) int {
		state = state*6364136223846793005 + 1442695040888963407
		return int(state >> 33 % uint64(below))
	}
}

// 12.1 to 12.3: rings of several sizes are as the plain one, in long runs, too.
func TestLongRuns(t *testing.T) {
	draw := draws()
	seen := map[string]map[api.Errno]int{"reserve": {}, "submit": {}, "discard": {}, "output": {}}
	for run := range 300 {
		w := pairUp(t, powers[draw(5)])
		hold := 1 + draw(5)
		for range 200 {
			longStep(w, draw, hold, seen)
			w.look()
		}
		if draw(2) == 0 {
			w.free()
			w.look()
			longStep(w, draw, hold, seen)
		}
		w.grace()
		w.drain()
		w.look()
		if t.Failed() {
			t.Fatalf("run %d", run)
		}
	}
	for what, errs := range map[string][]api.Errno{
		"reserve": {api.OK, api.ErrArg, api.ErrFull, api.ErrMem},
		"output":  {api.OK, api.ErrArg, api.ErrFull, api.ErrMem},
		"submit":  {api.OK, api.ErrArg},
		"discard": {api.OK, api.ErrArg},
	} {
		for _, e := range errs {
			if seen[what][e] < 100 {
				t.Errorf("%s told error %d %d times", what, e, seen[what][e])
			}
		}
	}
}

// longStep does one thing to both; hold is how many records a run likes to hold.
func longStep(w twins, draw func(below int) int, hold int, seen map[string]map[api.Errno]int) {
	w.t.Helper()
	size := 1 + draw(w.p.most/2)
	if draw(3) > 0 {
		size = 1 + draw(20)
	}
	if draw(20) == 0 {
		size = []int{0, -1, w.p.most/2 + 1, w.p.most}[draw(4)]
	}
	addr := w.addr(draw(max(len(w.p.held()), 1)))
	if draw(8) == 0 {
		addr = at(draw(w.p.made+2)) + uint64(draw(2))
	}
	switch n := draw(32); {
	case n == 0:
		w.grace()
	case n == 1:
		w.fail()
	case n < 5:
		w.write(1+draw(w.p.made+1), byte(draw(256)))
	case n < 10:
		seen["output"][w.output(row(byte(draw(256)), size))]++
	case n < 14:
		w.drain()
	case n < 22 || len(w.p.held()) < hold && n < 26:
		seen["reserve"][w.reserve(size)]++
	case n%4 == 0:
		seen["discard"][w.discard(addr)]++
	default:
		seen["submit"][w.submit(addr)]++
	}
}

// 12.3: of very many records each that was submitted is told once, in the order in which it was reserved, and none behind a held one.
func TestEachOnce(t *testing.T) {
	for _, most := range []int{64, 256, 4096} {
		draw := draws()
		x, m := build(t, most)
		var want, got []string // what was submitted, by the order of reserving, and what was told
		var due []int          // which of want a held record will be
		var held []uint64
		for n := 0; n < 20000; n++ {
			s := row(byte(n), 1+draw(24))
			if addr, e := x.Reserve(len(s)); e == api.OK {
				put(t, m, addr, s)
				want, due, held = append(want, s), append(due, len(want)), append(held, addr)
			} else if x.Output("x") == api.OK {
				want = append(want, "x")
			}
			for len(held) > 0 && draw(3) > 0 {
				i := draw(len(held))
				wantSubmit(t, x, held[i], api.OK)
				due, held = slices.Delete(due, i, i+1), slices.Delete(held, i, i+1)
			}
			got = append(got, x.Drain()...)
			first := len(want)
			if len(due) > 0 {
				first = slices.Min(due)
			}
			if len(got) != first || x.Used() > most {
				t.Fatalf("%d are told, %d bytes used; want %d", len(got), x.Used(), first)
			}
			m.Grace()
		}
		if !slices.Equal(got, want[:len(got)]) || len(got) < 10000 {
			t.Errorf("%d bytes: %d records are told, others than those that were submitted", most, len(got))
		}
	}
}

// 12.3: a record that is held keeps all behind it from being told, however much is done; then they are told at once.
func TestHeldKeeps(t *testing.T) {
	for _, most := range []int{64, 1024, 65536} {
		x, m := build(t, most)
		wantReserve(t, x, 1, at(1), api.OK)
		var want []string
		for n := 16; n < most; n += 16 {
			s := row(byte(n), 1+n/16%8)
			wantOutput(t, x, s, api.OK)
			wantDrain(t, x)
			wantUsed(t, x, n+16)
			want = append(want, s)
			m.Grace()
		}
		wantOutput(t, x, "a", api.ErrFull)
		wantUsed(t, x, most)
		wantDiscard(t, x, at(1), api.OK)
		wantDrain(t, x, want...)
		wantUsed(t, x, 0)
	}
}

// 12.3: while the newest record is always held, all ahead of it are told, each in its turn, round and round.
func TestHeldNewest(t *testing.T) {
	x, m := build(t, 64)
	number := 0
	for n := range 200 { // the held one is always the newest one
		number++
		wantReserve(t, x, 1+n%16, at(number), api.OK)
		put(t, m, at(number), row(byte(n), 1+n%16))
		if n > 0 {
			wantSubmit(t, x, at(number-1), api.OK)
			wantDrain(t, x, row(byte(n-1), 1+(n-1)%16))
		}
		wantDrain(t, x)
		wantUsed(t, x, takes(1+n%16))
		m.Grace()
	}
}

// R5: what is told hangs on what was done alone: the same calls in other memories tell the same.
func TestAgain(t *testing.T) {
	run := func() ([]string, []api.Region) {
		draw, m := draws(), kmem.New()
		x := buildIn(t, m, 256)
		var l []string
		for range 2000 {
			switch draw(4) {
			case 0:
				x.Reserve(1 + draw(40))
			case 1:
				x.Output(row(byte(draw(256)), 1+draw(40)))
			case 2:
				x.Submit(at(1 + draw(60)))
			default:
				x.Discard(at(1 + draw(60)))
			}
			l = append(l, x.Drain()...)
		}
		x.Free()
		return l, m.Regions()
	}
	told, regions := run()
	if len(told) < 10 || len(regions) < 10 {
		t.Errorf("%d records are told, %d regions left", len(told), len(regions))
	}
	for range 5 {
		if l, r := run(); !slices.Equal(l, told) || !slices.Equal(r, regions) {
			t.Fatalf("%d records, %d regions; the first time %d, %d", len(l), len(r), len(told), len(regions))
		}
	}
}
