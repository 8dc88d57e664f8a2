package queue_test

import (
	"slices"
	"testing"

	"portcullis/api"
	"portcullis/queue"
)

// plain is a queue or a stack as the chapter says it: all that waits, the oldest one first.
type plain struct {
	spec  api.MapSpec
	waits []string
}

func (p *plain) push(value string, flags int) api.Errno {
	if len(value) != p.spec.Value || flags != 0 && flags != 2 {
		return api.ErrArg
	}
	if len(p.waits) == p.spec.Max {
		if flags == 0 {
			return api.ErrFull
		}
		p.waits = p.waits[1:]
	}
	p.waits = append(p.waits, value)
	return api.OK
}

func (p *plain) peek() (string, api.Errno) {
	if len(p.waits) == 0 {
		return "", api.ErrNone
	}
	if p.spec.Kind == api.MapQueue {
		return p.waits[0], api.OK
	}
	return p.waits[len(p.waits)-1], api.OK
}

func (p *plain) pop() (string, api.Errno) {
	value, err := p.peek()
	if err == api.OK && p.spec.Kind == api.MapQueue {
		p.waits = p.waits[1:]
	} else if err == api.OK {
		p.waits = p.waits[:len(p.waits)-1]
	}
	return value, err
}

// told is the values that are popped, in order, till there are none, or more than there may be.
func told(x *queue.Map) []string {
	var l []string
	for range api.MaxEntries + 1 {
		value, e := x.Pop()
		if e != api.OK {
			break
		}
		l = append(l, value)
	}
	return l
}

// 9.2: any number of values, more than Max of them: those that are left are told in the order of coming, by a stack the other way round.
func TestOrder(t *testing.T) {
	for _, kind := range kinds {
		for _, most := range []int{1, 2, 3, 4, 7, 8, 9, 16} {
			for n := range 3*most + 2 {
				x := build(t, spec(kind, 4, most))
				for i := range n {
					wantPush(t, x, value(i), force, api.OK)
					wantLen(t, x, min(i+1, most))
				}
				wantAll(t, x, turns(kind, max(0, n-most), n-1)...)
			}
		}
	}
}

// 9.2: with no flags the first Max values stay, and what comes behind them changes nothing.
func TestOrderRefused(t *testing.T) {
	for _, kind := range kinds {
		for _, most := range []int{1, 2, 3, 8} {
			x := with(t, kind, most, most)
			for i := range 2 * most {
				wantPush(t, x, value(most+i), 0, api.ErrFull)
				wantLen(t, x, most)
			}
			wantAll(t, x, turns(kind, 0, most-1)...)
		}
	}
}

// 9.2: the greatest queue and the greatest stack, round and round.
func TestOrderOfMany(t *testing.T) {
	const n = 2*api.MaxEntries + 77
	for _, kind := range kinds {
		x := build(t, spec(kind, 4, api.MaxEntries))
		for i := range n {
			wantPush(t, x, value(i), force, api.OK)
			wantLen(t, x, min(i+1, api.MaxEntries))
		}
		if !slices.Equal(told(x), turns(kind, n-api.MaxEntries, n-1)) {
			t.Errorf("kind %d tells others than the %d newest ones in order", kind, api.MaxEntries)
		}
	}
}

// 9.2: a queue that is never full nor empty tells in order, however many go through.
func TestOrderThrough(t *testing.T) {
	for waits := 1; waits <= 6; waits++ {
		for room := range 3 {
			x := with(t, api.MapQueue, waits+room+1, waits)
			for n := range 40 {
				wantPush(t, x, value(waits+n), 0, api.OK)
				wantPop(t, x, value(n), api.OK)
			}
			wantAll(t, x, turns(api.MapQueue, 40, 39+waits)...)
		}
	}
}

// 9.1, 9.2: whatever is done, both kinds tell what a plain list tells.
func TestAsPlain(t *testing.T) {
	draw := draws()
	seen := map[string]int{}
	for range 400 {
		s := spec(among(draw, kinds...), among(draw, 1, 2, 4), among(draw, 1, 2, 3, 5, 8))
		x, p := build(t, s), &plain{spec: s}
		pushes := 1 + draw()%8 // of ten steps
		for range 120 {
			step(t, draw, x, p, draw()%10 < pushes, seen)
			wantLen(t, x, len(p.waits))
			if x.Len() > s.Max {
				t.Fatalf("%d values of %d", x.Len(), s.Max)
			}
		}
		if t.Failed() {
			t.Fatalf("%v tells another thing than the plain list", s)
		}
	}
	for _, what := range []string{"push 0", "push 1", "push 3", "push 0 with 2 on a full one", "pop 0", "pop 4", "peek 0", "peek 4"} {
		if seen[what] < 500 {
			t.Errorf("%s: %d times", what, seen[what])
		}
	}
}

// step does one thing to both, and counts what was told.
func step(t *testing.T, draw func() uint64, x *queue.Map, p *plain, push bool, seen map[string]int) {
	t.Helper()
	switch {
	case push:
		v := drawn(draw, among(draw, p.spec.Value, p.spec.Value, p.spec.Value, p.spec.Value, p.spec.Value-1, p.spec.Value+1))
		flags := among(draw, 0, 0, 0, 2, 2, 1, -2)
		full := len(p.waits) == p.spec.Max
		err := p.push(v, flags)
		wantPush(t, x, v, flags, err)
		switch {
		case err == api.OK && full:
			seen["push 0 with 2 on a full one"]++
		case err == api.OK:
			seen["push 0"]++
		case err == api.ErrArg:
			seen["push 1"]++
		case err == api.ErrFull:
			seen["push 3"]++
		}
	case draw()%3 == 0:
		want, err := p.peek()
		wantPeek(t, x, want, err)
		seen["peek "+string(rune('0'+err))]++
	default:
		want, err := p.pop()
		wantPop(t, x, want, err)
		seen["pop "+string(rune('0'+err))]++
	}
}

// drawn is n drawn bytes.
func drawn(draw func() uint64, n int) string {
	b := make([]byte, n)
	for i := range b {
		b[i] = byte(draw())
	}
	return string(b)
}

// R5: what is told hangs on what was done alone: twice the same is told the same.
func TestTwice(t *testing.T) {
	for _, kind := range kinds {
		var first []string
		for round := range 2 {
			draw := draws()
			x := build(t, spec(kind, 2, 5))
			var l []string
			for range 300 {
				if draw()%3 > 0 {
					x.Push(drawn(draw, 2), among(draw, 0, 2))
				} else if v, e := x.Pop(); e == api.OK {
					l = append(l, v)
				}
			}
			l = append(l, told(x)...)
			if round == 0 {
				first = l
			} else if !slices.Equal(l, first) || len(l) < 50 {
				t.Errorf("kind %d: %d values the first time, %d the second time", kind, len(first), len(l))
			}
		}
	}
}
