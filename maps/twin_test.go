package maps_test

import (
	"slices"
	"strconv"
	"strings"
	"testing"

	"portcullis/api"
	"portcullis/flat"
	"portcullis/hash"
	"portcullis/kmem"
	"portcullis/maps"
	"portcullis/queue"
	"portcullis/ring"
	"portcullis/trie"
)

// twin is a map as its layer has it, in a memory of its own: the calls that the layer has; those that it has not are nil.
type twin struct {
	mem       *kmem.Mem
	lookup    func(key string, cpu int) uint64
	update    func(key, value string, flags, cpu int) api.Errno
	remove    func(key string) api.Errno
	next      func(key string) (string, api.Errno)
	push      func(value string, flags int) api.Errno
	pop, peek func() (string, api.Errno)
	reserve   func(size int) (uint64, api.Errno)
	end       func(addr uint64, keep bool) api.Errno
	output    func(s string) api.Errno
	drain     func() []string
	prog      func(index int) (int, bool)
	free      func() api.Errno
}

// newTwin makes the map of a spec's layer.
func newTwin(t *testing.T, s api.MapSpec) *twin {
	t.Helper()
	w := &twin{mem: kmem.New()}
	var err api.Errno
	switch s.Kind {
	case api.MapArray, api.MapCpu:
		var x *flat.Map
		x, err = flat.New(w.mem, s, 3)
		w.lookup, w.update, w.remove, w.next, w.free = x.Lookup, x.Update, x.Delete, x.Next, x.Free
	case api.MapHash, api.MapLru:
		var x *hash.Map
		x, err = hash.New(w.mem, s)
		w.keyed(x.Lookup, x.Update)
		w.remove, w.next, w.free = x.Delete, x.Next, x.Free
	case api.MapTrie:
		var x *trie.Map
		x, err = trie.New(w.mem, s)
		w.keyed(x.Lookup, x.Update)
		w.remove, w.next, w.free = x.Delete, x.Next, x.Free
	case api.MapQueue, api.MapStack:
		var x *queue.Map
		x, err = queue.New(s)
		w.push, w.pop, w.peek, w.free = x.Push, x.Pop, x.Peek, w.leave
	case api.MapRing:
		var x *ring.Map
		x, err = ring.New(w.mem, s)
		w.reserve, w.output, w.drain, w.free = x.Reserve, x.Output, x.Drain, x.Free
		w.end = func(addr uint64, keep bool) api.Errno {
			if keep {
				return x.Submit(addr)
			}
			return x.Discard(addr)
		}
	case api.MapProgs:
		x := plain{most: s.Max, progs: map[int]int{}}
		w.update, w.remove, w.next, w.prog, w.free = x.update, x.remove, x.next, x.prog, w.leave
	}
	if err != api.OK {
		t.Fatalf("New(%v) of the layer: error %d", s, err)
	}
	return w
}

// keyed sets the calls of a layer that knows no CPUs.
func (w *twin) keyed(lookup func(string) uint64, update func(string, string, int) api.Errno) {
	w.lookup = func(key string, cpu int) uint64 { return lookup(key) }
	w.update = func(key, value string, flags, cpu int) api.Errno { return update(key, value, flags) }
}

// leave is Free of those whose layer has none: no call is left.
func (w *twin) leave() api.Errno {
	*w = twin{mem: w.mem}
	return api.OK
}

// plain is programs as the chapter says them.
type plain struct {
	most  int
	progs map[int]int
}

// word is the number in 4 bytes; -1, if there are not so many.
func word(s string) int {
	if len(s) != 4 {
		return -1
	}
	return int(s[0]) + int(s[1])*256 + int(s[2])*65536 + int(s[3])*16777216
}

func (p plain) update(key, value string, flags, cpu int) api.Errno {
	_, there := p.progs[word(key)]
	switch {
	case word(key) < 0, word(value) < 0, flags < 0, flags > 2:
		return api.ErrArg
	case word(key) >= p.most:
		return api.ErrFull
	case there && flags == api.UpdateNoExist:
		return api.ErrExists
	case !there && flags == api.UpdateExist:
		return api.ErrNone
	}
	p.progs[word(key)] = word(value)
	return api.OK
}

func (p plain) remove(s string) api.Errno {
	if word(s) < 0 {
		return api.ErrArg
	}
	if _, there := p.progs[word(s)]; !there {
		return api.ErrNone
	}
	delete(p.progs, word(s))
	return api.OK
}

func (p plain) next(s string) (string, api.Errno) {
	least := -1
	for n := range p.progs {
		if n > word(s) && (least < 0 || n < least) {
			least = n
		}
	}
	if least < 0 {
		return "", api.ErrNone
	}
	return key(least), api.OK
}

func (p plain) prog(index int) (int, bool) {
	n, there := p.progs[index]
	return n, there
}

// asked is what is handed in to a call.
type asked struct {
	call       string
	key, value string
	n, cpu     int
	addr       uint64
	keep       bool
}

// calls is all calls but Spec, which tells the same always.
var calls = []string{"Lookup", "Update", "Delete", "Next", "Push", "Pop", "Peek", "Reserve", "End", "Output", "Drain", "Prog", "Free"}

// told is what a call tells, as a text.
func told(parts ...string) string { return strings.Join(parts, " ") }

// errText is an error's number as a text.
func errText(e api.Errno) string { return "error " + strconv.Itoa(int(e)) }

// textOf is a text and an error as a text.
func textOf(s string, e api.Errno) string { return told(short(s), errText(e)) }

// addrOf is an address and an error as a text.
func addrOf(a uint64, e api.Errno) string { return told(strconv.FormatUint(a, 16), errText(e)) }

// listOf is records as a text.
func listOf(l []string) string {
	s := strconv.Itoa(len(l))
	for _, r := range l {
		s = told(s, strconv.Quote(r))
	}
	return s
}

// progOf is a program's number as a text.
func progOf(n int, ok bool) string { return told(strconv.Itoa(n), strconv.FormatBool(ok)) }

// ask does a call of a map.
func ask(x *maps.Map, a asked) string {
	switch a.call {
	case "Lookup":
		return addrOf(x.Lookup(a.key, a.cpu), api.OK)
	case "Update":
		return errText(x.Update(a.key, a.value, a.n, a.cpu))
	case "Delete":
		return errText(x.Delete(a.key))
	case "Next":
		return textOf(x.Next(a.key))
	case "Push":
		return errText(x.Push(a.value, a.n))
	case "Pop":
		return textOf(x.Pop())
	case "Peek":
		return textOf(x.Peek())
	case "Reserve":
		return addrOf(x.Reserve(a.n))
	case "End":
		return errText(x.End(a.addr, a.keep))
	case "Output":
		return errText(x.Output(a.value))
	case "Drain":
		return listOf(x.Drain())
	case "Prog":
		return progOf(x.Prog(a.n))
	case "Free":
		return errText(x.Free())
	}
	panic(a.call)
}

// has tells whether the layer has a call.
func (w *twin) has(call string) bool {
	switch call {
	case "Lookup":
		return w.lookup != nil
	case "Update":
		return w.update != nil
	case "Delete":
		return w.remove != nil
	case "Next":
		return w.next != nil
	case "Push":
		return w.push != nil
	case "Pop":
		return w.pop != nil
	case "Peek":
		return w.peek != nil
	case "Reserve":
		return w.reserve != nil
	case "End":
		return w.end != nil
	case "Output":
		return w.output != nil
	case "Drain":
		return w.drain != nil
	case "Prog":
		return w.prog != nil
	case "Free":
		return w.free != nil
	}
	panic(call)
}

// without is what a call answers that no layer has: ErrArg, 0 or none.
func without(call string) string {
	switch call {
	case "Lookup":
		return addrOf(0, api.OK)
	case "Next", "Pop", "Peek":
		return textOf("", api.ErrArg)
	case "Reserve":
		return addrOf(0, api.ErrArg)
	case "Drain":
		return listOf(nil)
	case "Prog":
		return progOf(0, false)
	}
	return errText(api.ErrArg)
}

// ask does a call of the layer's map.
func (w *twin) ask(a asked) string {
	if !w.has(a.call) {
		return without(a.call)
	}
	switch a.call {
	case "Lookup":
		return addrOf(w.lookup(a.key, a.cpu), api.OK)
	case "Update":
		return errText(w.update(a.key, a.value, a.n, a.cpu))
	case "Delete":
		return errText(w.remove(a.key))
	case "Next":
		return textOf(w.next(a.key))
	case "Push":
		return errText(w.push(a.value, a.n))
	case "Pop":
		return textOf(w.pop())
	case "Peek":
		return textOf(w.peek())
	case "Reserve":
		return addrOf(w.reserve(a.n))
	case "End":
		return errText(w.end(a.addr, a.keep))
	case "Output":
		return errText(w.output(a.value))
	case "Drain":
		return listOf(w.drain())
	case "Prog":
		return progOf(w.prog(a.n))
	case "Free":
		return errText(w.free())
	}
	panic(a.call)
}

// askedOf draws what is handed in to a call of a map of that spec: what is taken, mostly, and what is not.
func askedOf(draw func() uint64, call string, s api.MapSpec) asked {
	a := asked{
		call: call,
		cpu:  among(draw, -2, -1, 0, 1, 2, 3),
		addr: at(int(draw() % 12)),
		keep: draw()%2 == 0,
	}
	if draw()%8 == 0 {
		a.addr++
	}
	values := []string{"abc", "def", "\x00\xff\n"}
	switch s.Kind {
	case api.MapHash, api.MapLru:
		a.key = among(draw, "aa", "ab", "ba", "bb", "zz", "", "a", "aaa")
	case api.MapTrie:
		a.key = among(draw, "\x00\x00\x00\x00ab", "\x08\x00\x00\x00ab", "\x08\x00\x00\x00az", "\x10\x00\x00\x00ab", "\x0c\x00\x00\x00ab", "\x11\x00\x00\x00ab", "", "ab")
	default:
		a.key = among(draw, key(0), key(1), key(1), key(2), key(-1), "", "\x00", "\x00\x00\x00", "\x01\x00\x00\x00\x00")
	}
	if s.Kind == api.MapProgs {
		values = []string{key(0), key(7), key(-1)}
	}
	if draw()%6 == 0 {
		values = []string{"", "a", row(32), row(33)}
	}
	a.value = among(draw, values...)
	switch call {
	case "Reserve":
		a.n = among(draw, -1, 0, 1, 8, 9, 24, 32, 33)
	case "Prog":
		a.n = among(draw, -1, 0, 1, 2, 1<<32-1)
	default:
		a.n = among(draw, -1, 0, 0, 0, 1, 2, 3)
	}
	return a
}

// 13.2: whatever is asked of a map one behind the other, it tells what its layer does, and does to memory what its layer does; what its layer has not answers ErrArg, 0 or none, and plays no part for the others.
func TestAgainstLayers(t *testing.T) {
	draw := draws()
	for _, s := range samples {
		for run := range 200 {
			x, m := build(t, s)
			w := newTwin(t, s)
			for step := range 200 {
				call := among(draw, calls...)
				// Free comes late, so that the others have something to tell.
				if call == "Free" && step < 150 {
					call = "Lookup"
				}
				a := askedOf(draw, call, s)
				// Records are held in the newest regions.
				if l := m.Regions(); len(l) > 0 && draw()%2 == 0 {
					a.addr = at(among(draw, l...).Number)
				}
				if draw()%16 == 0 {
					n := int(draw() % 3)
					m.Fail(n)
					w.mem.Fail(n)
				}
				if draw()%16 == 0 {
					m.Grace()
					w.mem.Grace()
				}
				if got, want := ask(x, a), w.ask(a); got != want {
					t.Fatalf("%v, run %d, step %d, %+v: %s; want %s", s, run, step, a, got, want)
				}
				if got, want := m.Regions(), w.mem.Regions(); !slices.Equal(got, want) {
					t.Fatalf("%v, run %d, step %d, %+v: regions %v; want %v", s, run, step, a, got, want)
				}
			}
		}
	}
}

// allButFree is all calls that leave a map to be asked.
var allButFree = calls[:len(calls)-1]

// disturb asks these calls of a map, with what is taken by its kind, and with what isn't.
func disturb(x *maps.Map, calls ...string) {
	draw := draws()
	for range 100 {
		for _, call := range calls {
			ask(x, askedOf(draw, call, x.Spec()))
		}
	}
}

// hasnt is the calls that maps of each kind have not.
var hasnt = map[int][]string{
	api.MapHash:  {"Push", "Pop", "Peek", "Reserve", "End", "Output", "Drain", "Prog"},
	api.MapArray: {"Push", "Pop", "Peek", "Reserve", "End", "Output", "Drain", "Prog"},
	api.MapCpu:   {"Push", "Pop", "Peek", "Reserve", "End", "Output", "Drain", "Prog"},
	api.MapLru:   {"Push", "Pop", "Peek", "Reserve", "End", "Output", "Drain", "Prog"},
	api.MapTrie:  {"Push", "Pop", "Peek", "Reserve", "End", "Output", "Drain", "Prog"},
	api.MapProgs: {"Lookup", "Push", "Pop", "Peek", "Reserve", "End", "Output", "Drain"},
	api.MapQueue: {"Lookup", "Update", "Delete", "Next", "Reserve", "End", "Output", "Drain", "Prog"},
	api.MapStack: {"Lookup", "Update", "Delete", "Next", "Reserve", "End", "Output", "Drain", "Prog"},
	api.MapRing:  {"Lookup", "Update", "Delete", "Next", "Push", "Pop", "Peek", "Prog"},
}

// 13.2: the calls that a map's layer has not answer ErrArg, 0 or none, whatever is handed in.
func TestCallsWithoutLayer(t *testing.T) {
	draw := draws()
	for _, s := range samples {
		x, m := build(t, s)
		w := newTwin(t, s)
		for _, call := range hasnt[s.Kind] {
			if w.has(call) {
				t.Fatalf("%v: the layer has %s", s, call)
			}
			for range 100 {
				a := askedOf(draw, call, s)
				if got := ask(x, a); got != without(call) {
					t.Errorf("%v: %+v: %s; want %s", s, a, got, without(call))
				}
			}
		}
		// asked right for a map of another kind
		for _, other := range samples {
			for _, call := range hasnt[s.Kind] {
				a := askedOf(draw, call, other)
				if got := ask(x, a); got != without(call) {
					t.Errorf("%v: %+v: %s; want %s", s, a, got, without(call))
				}
			}
		}
		wantRegions(t, m, w.mem.Regions()...)
	}
}

// 13.2: these calls leave the map as it was: whatever is asked of it behind them, it tells what one tells to which they never came.
func TestCallsWithoutLayerChangeNothing(t *testing.T) {
	for _, s := range samples {
		draw := draws()
		x, m := build(t, s)
		w := newTwin(t, s)
		for range 400 {
			a := askedOf(draw, among(draw, allButFree...), s)
			if got, want := ask(x, a), w.ask(a); got != want {
				t.Fatalf("%v: %+v: %s; want %s", s, a, got, want)
			}
			m.Fail(1)
			disturb(x, hasnt[s.Kind]...)
			wantFails(t, m)
			if got, want := m.Regions(), w.mem.Regions(); !slices.Equal(got, want) {
				t.Fatalf("%v: regions %v; want %v", s, got, want)
			}
		}
	}
}
