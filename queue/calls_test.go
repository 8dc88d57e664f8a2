package queue_test

import (
	"math"
	"strings"
	"testing"

	"portcullis/api"
	"portcullis/queue"
)

// 9.1: the chapter's examples.
func TestExamples(t *testing.T) {
	for _, c := range []struct {
		kind int
		want []string
	}{
		{api.MapQueue, []string{"b", "c"}},
		{api.MapStack, []string{"c", "b"}},
	} {
		x := build(t, spec(c.kind, 1, 2))
		wantPush(t, x, "a", 0, api.OK)
		wantPush(t, x, "b", 0, api.OK)
		wantPush(t, x, "c", 0, api.ErrFull)
		wantPush(t, x, "c", force, api.OK)
		wantAll(t, x, c.want...)
	}
}

// 9.1: a value has Value bytes, whichever they are.
func TestPushLengths(t *testing.T) {
	for _, kind := range kinds {
		for _, size := range []int{1, 2, 7, 8, 255, 256, 257, api.MaxValue} {
			x := build(t, spec(kind, size, 3))
			for _, wrong := range []int{0, size - 1, size + 1, 2 * size, size + 256, size + 65536} {
				for _, flags := range []int{0, force} {
					wantPush(t, x, filled('w', wrong), flags, api.ErrArg)
				}
			}
			wantLen(t, x, 0)
			for _, b := range []byte{0, ' ', 0xff} {
				wantPush(t, x, filled(b, size), 0, api.OK)
			}
			want := []string{filled(0, size), filled(' ', size), filled(0xff, size)}
			if kind == api.MapStack {
				want[0], want[2] = want[2], want[0]
			}
			wantAll(t, x, want...)
		}
	}
}

// 9.1: Push's flags are 0 or 2, whether there is room or not.
func TestPushFlags(t *testing.T) {
	for _, kind := range kinds {
		for n := range 3 {
			for _, flags := range []int{-2, -1, 1, 3, 4, 6, 8, 256, 258, 1 << 32, 1<<32 + 2, -1 << 32, math.MinInt, math.MinInt + 2, math.MaxInt} {
				x := with(t, kind, 2, n)
				wantPush(t, x, value(9), flags, api.ErrArg)
				wantAll(t, x, turns(kind, 0, n-1)...)
			}
		}
	}
}

// 9.1: with one place left there is room, with none ErrFull; flags 2 finds room then, as the oldest one goes, of a stack too.
func TestPushFull(t *testing.T) {
	for _, kind := range kinds {
		for _, most := range []int{1, 2, 3, 5, 255, 256, 257, api.MaxEntries} {
			for _, flags := range []int{0, force} {
				x := with(t, kind, most, most-1)
				wantPush(t, x, value(most-1), flags, api.OK)
				wantLen(t, x, most)
				wantPush(t, x, value(most), 0, api.ErrFull)
				wantLen(t, x, most)
				wantPush(t, x, value(most), force, api.OK)
				wantAll(t, x, turns(kind, 1, most)...)
			}
		}
	}
}

// 9.1: flags 2 takes nothing off where there is room.
func TestPushForceWithRoom(t *testing.T) {
	for _, kind := range kinds {
		for n := range 4 {
			x := with(t, kind, 4, n)
			wantPush(t, x, value(n), force, api.OK)
			wantAll(t, x, turns(kind, 0, n)...)
		}
	}
}

// 9.1, R2: what is wrong by itself is told ahead of ErrFull, and changes nothing.
func TestPushOrder(t *testing.T) {
	for _, kind := range kinds {
		x := with(t, kind, 3, 3)
		for _, wrong := range []string{"", "abc", "abcde"} {
			for flags := -1; flags <= 3; flags++ {
				wantPush(t, x, wrong, flags, api.ErrArg)
			}
		}
		for _, flags := range []int{-1, 1, 3} {
			wantPush(t, x, "abcd", flags, api.ErrArg)
		}
		wantPush(t, x, "abcd", 0, api.ErrFull)
		wantAll(t, x, turns(kind, 0, 2)...)
	}
}

// 9.1: the same value may wait several times.
func TestPushAgain(t *testing.T) {
	for _, kind := range kinds {
		x := build(t, spec(kind, 1, 3))
		for range 5 {
			wantPush(t, x, "s", force, api.OK)
		}
		wantAll(t, x, "s", "s", "s")
	}
}

// 9.1: with none Pop and Peek tell ErrNone and no value: at first, and when all are gone.
func TestNone(t *testing.T) {
	for _, kind := range kinds {
		for _, most := range []int{1, 2, api.MaxEntries} {
			x := build(t, spec(kind, 4, most))
			for range 3 {
				wantAll(t, x)
				wantPush(t, x, value(7), 0, api.OK)
				wantAll(t, x, value(7))
			}
		}
	}
}

// 9.1: Peek leaves what it tells, however often.
func TestPeekLeaves(t *testing.T) {
	for _, kind := range kinds {
		for _, n := range []int{1, 2, 3} {
			x := with(t, kind, 3, n)
			l := turns(kind, 0, n-1)
			for range 5 {
				wantPeek(t, x, l[0], api.OK)
				wantLen(t, x, n)
			}
			wantAll(t, x, l...)
		}
	}
}

// 9.1: the oldest one and the newest one, where Pushes and Pops come one among the other.
func TestAmong(t *testing.T) {
	x := build(t, spec(api.MapQueue, 1, 3))
	y := build(t, spec(api.MapStack, 1, 3))
	for _, c := range []struct {
		push   string
		flags  int
		err    api.Errno
		q, s   string
		length int
	}{
		{"a", 0, api.OK, "a", "a", 0},
		{"b", 0, api.OK, "", "", 1},
		{"c", force, api.OK, "", "", 2},
		{"d", 0, api.OK, "", "", 3},
		{"e", 0, api.ErrFull, "b", "d", 2},
		{"e", 0, api.OK, "", "", 3},
		{"f", force, api.OK, "", "", 3}, // of the queue c goes, of the stack b
		{"g", force, api.OK, "", "", 3}, // of the queue d goes, of the stack c
		{"h", 0, api.ErrFull, "e", "g", 2},
		{"h", 0, api.OK, "f", "h", 2},
		{"i", force, api.OK, "g", "i", 2},
	} {
		for _, m := range []struct {
			x   *queue.Map
			pop string
		}{{x, c.q}, {y, c.s}} {
			wantPush(t, m.x, c.push, c.flags, c.err)
			if m.pop != "" {
				wantPeek(t, m.x, m.pop, api.OK)
				wantPop(t, m.x, m.pop, api.OK)
			}
			wantLen(t, m.x, c.length)
		}
	}
	wantAll(t, x, "h", "i")
	wantAll(t, y, "f", "e")
}

// 9.1: on nil all that answer an error tell ErrArg, whatever is handed in.
func TestNil(t *testing.T) {
	var x *queue.Map
	for _, v := range []string{"", "a", "abcd", filled('x', api.MaxValue+1)} {
		for _, flags := range []int{math.MinInt, -1, 0, 1, 2, 3, math.MaxInt} {
			wantPush(t, x, v, flags, api.ErrArg)
		}
	}
	wantPop(t, x, "", api.ErrArg)
	wantPeek(t, x, "", api.ErrArg)
	wantLen(t, x, 0)
}

// R4: what a value is cut from, and what an answer is put into, play no part.
func TestAlone(t *testing.T) {
	for _, kind := range kinds {
		x := build(t, spec(kind, 4, 2))
		b := []byte("one two ")
		wantPush(t, x, string(b[:4]), 0, api.OK)
		copy(b, "none")
		wantPush(t, x, string(b[4:]), 0, api.OK)
		got, _ := x.Peek()
		changed := []byte(got)
		changed[0] = '?'
		wantPush(t, x, strings.Repeat("long", 2)[2:6], 0, api.ErrFull)
		want := []string{"one ", "two "}
		if kind == api.MapStack {
			want[0], want[1] = want[1], want[0]
		}
		wantAll(t, x, want...)
	}
}
