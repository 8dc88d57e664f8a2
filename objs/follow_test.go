package objs_test

import (
	"slices"
	"testing"

	"portcullis/api"
	"portcullis/objs"
)

// moves is what a short run is made of; n is another number at each place of a run.
var moves = []func(w twins, n int){
	func(w twins, n int) { w.add(n - 2) },
	func(w twins, n int) { w.dup(0) },
	func(w twins, n int) { w.close(0) },
	func(w twins, n int) { w.close(1) },
	func(w twins, n int) { w.hold(1) },
	func(w twins, n int) { w.hold(2) },
	func(w twins, n int) { w.drop(1) },
	func(w twins, n int) { w.drop(2) },
	func(w twins, n int) { w.pin("/a", 0) },
	func(w twins, n int) { w.pin("/b", 1) },
	func(w twins, n int) { w.unpin("/a") },
	func(w twins, n int) { w.open("/a") },
}

// 14.3: whatever up to five moves are done one behind the other, the table tells what the plain one tells, and dies away as it does.
func TestAllShortRuns(t *testing.T) {
	const deepest = 5
	seen := map[told]int{}
	runs := 1
	for deep := range deepest + 1 {
		for run := range runs {
			w := pairUp(t, seen)
			for n, rest := 0, run; n < deep; n, rest = n+1, rest/len(moves) {
				moves[rest%len(moves)](w, n)
			}
			w.look(deepest + 1)
			w.empty()
			if t.Failed() {
				t.Fatalf("run %d of %d moves", run, deep)
			}
		}
		runs *= len(moves)
	}
}

// 14.3, R2: behind each run of three moves all that is refused leaves everything as it was.
func TestRefused(t *testing.T) {
	const deep = 3
	seen := map[told]int{}
	for run := range len(moves) * len(moves) * len(moves) {
		w := pairUp(t, seen)
		w.add(7)
		for n, rest := 0, run; n < deep; n, rest = n+1, rest/len(moves) {
			moves[rest%len(moves)](w, n)
		}
		before := slices.Clone(w.p.holders)
		w.refuse(deep + 1)
		if !slices.Equal(w.p.holders, before) {
			t.Fatalf("run %d: what is to be refused was taken", run)
		}
		w.look(api.MaxFds)
		w.add(8) // whose id and fd are the next ones still
		w.empty()
		if t.Failed() {
			t.Fatalf("run %d", run)
		}
	}
}

// somePaths is paths of long runs, and a text that is none.
var somePaths = []string{"/a", "/b", "/c", "//", "/\xff", "/" + row(255), "/a/", "a"}

// 14.1 to 14.3: tables of many objects and of few are as the plain one in long runs, too.
func TestLongRuns(t *testing.T) {
	draw := draws()
	seen := map[told]int{}
	for run := range 120 {
		w := pairUp(t, seen)
		much := 2 + draw(7) // the more of it, the more fds
		for range 400 {
			longStep(w, draw, much)
			w.look(api.MaxFds)
		}
		w.empty()
		if t.Failed() {
			t.Fatalf("run %d", run)
		}
	}
	for _, want := range []told{
		{"add", api.OK, 0}, {"add", api.ErrFd, 0},
		{"dup", api.OK, 0}, {"dup", api.ErrFd, 0},
		{"close", api.OK, 0}, {"close", api.OK, 1}, {"close", api.ErrFd, 0},
		{"hold", api.OK, 0}, {"hold", api.ErrArg, 0},
		{"drop", api.OK, 0}, {"drop", api.OK, 1}, {"drop", api.ErrArg, 0},
		{"pin", api.OK, 0}, {"pin", api.ErrArg, 0}, {"pin", api.ErrFd, 0}, {"pin", api.ErrExists, 0},
		{"unpin", api.OK, 0}, {"unpin", api.OK, 1}, {"unpin", api.ErrArg, 0}, {"unpin", api.ErrNone, 0},
		{"open", api.OK, 0}, {"open", api.ErrArg, 0}, {"open", api.ErrNone, 0}, {"open", api.ErrFd, 0},
	} {
		if seen[want] < 50 {
			t.Errorf("%s told error %d with %d dead %d times", want.call, want.err, want.dead, seen[want])
		}
	}
}

// longStep does one thing to both.
func longStep(w twins, draw func(below int) int, much int) {
	w.t.Helper()
	path := somePaths[draw(len(somePaths))]
	fd := draw(api.MaxFds+4) - 2
	if used := w.anyFd(); draw(2) == 0 && used >= 0 {
		fd = draw(used + 1)
	}
	id := draw(len(w.p.kinds)+3) - 1
	if live := w.p.live(); draw(3) > 0 && len(live) > 0 {
		id = live[draw(len(live))]
	}
	switch n := draw(10 + much); n {
	case 0, 1, 2:
		w.close(fd)
	case 3:
		w.hold(id)
	case 4, 5:
		w.drop(id)
	case 6:
		w.pin(path, fd)
	case 7, 8:
		w.unpin(path)
	case 9:
		w.open(path)
	default:
		if n%3 > 0 {
			w.add(draw(9) - 4)
		} else {
			w.dup(fd)
		}
	}
}

// R4: what is told is new memory: what is done with it changes nothing that is told later, nor what was told ahead.
func TestAlone(t *testing.T) {
	x := with(t, 5)
	first := x.Live()
	second := x.Live()
	clear(first)
	first = append(first[:0], 9, 9, 9, 9, 9)
	if want := upTo(5); !slices.Equal(second, want) {
		t.Errorf("told ahead: %v; want %v", second, want)
	}
	wantLive(t, x, 1, 2, 3, 4, 5)
	a, _ := x.Close(0)
	b, _ := x.Close(1)
	if !slices.Equal(a, []int{1}) || !slices.Equal(b, []int{2}) {
		t.Fatalf("%v, %v", a, b)
	}
	a[0] = 7
	_ = append(a, 8)
	wantPin(t, x, "/a", 2, api.OK)
	wantClose(t, x, 2, api.OK)
	c, _ := x.Unpin("/a")
	if b[0] != 2 || !slices.Equal(c, []int{3}) {
		t.Errorf("%v, %v", b, c)
	}
	c[0] = 4
	wantLive(t, x, 4, 5)
	wantNoId(t, x, 3)
}

// R4: what a path is cut from plays no part.
func TestPathKept(t *testing.T) {
	x := with(t, 1)
	b := []byte("/one/two")
	wantPin(t, x, string(b[:4]), 0, api.OK)
	copy(b, "/two/one")
	wantOpen(t, x, string(b[:4]), 0, api.ErrNone)
	wantOpen(t, x, "/one", 1, api.OK)
	wantPin(t, x, string(b[4:]), 0, api.ErrExists)
	wantUnpin(t, x, string(b[4:]), api.OK)
}

// R5: what is told hangs on what was done alone: the same calls on other tables tell the same.
func TestAgain(t *testing.T) {
	run := func() []int {
		draw, x := draws(), objs.New()
		var l []int
		for range 2000 {
			path := somePaths[draw(len(somePaths))]
			switch draw(6) {
			case 0, 1:
				x.Add(draw(9))
			case 2:
				x.Pin(path, draw(12))
			case 3:
				dead, _ := x.Unpin(path)
				l = append(l, dead...)
			case 4:
				dead, _ := x.Close(draw(12))
				l = append(l, dead...)
			default:
				fd, _ := x.Open(path)
				l = append(l, fd)
			}
			l = append(l, x.Live()...)
		}
		return l
	}
	first := run()
	if len(first) < 1000 {
		t.Errorf("%d numbers are told", len(first))
	}
	for range 5 {
		if !slices.Equal(run(), first) {
			t.Fatal("the same calls tell others")
		}
	}
}

// R1: on nil all that answer an error tell ErrArg, whatever is handed in, and Live tells none.
func TestNil(t *testing.T) {
	var x *objs.Table
	for _, n := range append([]int{0, 1, 2, 62, 63}, noFds...) {
		wantAdd(t, x, n, 0, 0, api.ErrArg)
		wantGet(t, x, n, 0, 0, api.ErrArg)
		wantDup(t, x, n, 0, api.ErrArg)
		wantClose(t, x, n, api.ErrArg)
		wantNoId(t, x, n)
		for _, path := range append([]string{"/a", "/b", "/" + row(255)}, noPaths...) {
			wantPin(t, x, path, n, api.ErrArg)
			wantOpen(t, x, path, 0, api.ErrArg)
			wantUnpin(t, x, path, api.ErrArg)
		}
	}
	wantLive(t, x)
}
