package trie_test

import (
	"slices"
	"testing"

	"portcullis/api"
)

// upTo is all prefixes of at most so many bits, as forms of 5 bytes.
func upTo(most int) []string {
	var l []string
	for length := range most + 1 {
		for n := range 1 << length {
			l = append(l, key(uint32(length), string([]byte{byte(n << (8 - length))})))
		}
	}
	return l
}

// 11.2: whatever six of the seven prefixes of at most two bits come or go one behind the other, the longest of those that match is told.
func TestAllShortRuns(t *testing.T) {
	const deep = 6
	prefixes, asked := upTo(2), upTo(3)
	runs := 1
	for range deep {
		runs *= len(prefixes)
	}
	for run := range runs {
		w := pairUp(t, api.MapSpec{Kind: api.MapTrie, Key: 5, Value: 1, Max: len(prefixes)})
		rest := run
		for range deep {
			k := prefixes[rest%len(prefixes)]
			rest /= len(prefixes)
			if w.del(k) == api.ErrNone {
				w.update(k, "v", api.UpdateNoExist)
			}
		}
		w.look(asked)
		if t.Failed() {
			t.Fatalf("run %d", run)
		}
	}
}

// 11.2: of all sets of the prefixes of at most three bits, while they come and while they go.
func TestAllSets(t *testing.T) {
	all, asked := upTo(3), upTo(4)
	for set := 0; set < 1<<len(all); set += 7 { // every seventh of them
		w := pairUp(t, api.MapSpec{Kind: api.MapTrie, Key: 5, Value: 1, Max: len(all)})
		for i := range all {
			if k := i * 4 % len(all); set>>k&1 == 1 { // no order that they could have by themselves
				w.update(all[k], "v", api.UpdateAny)
			}
		}
		for i := range all {
			if i%8 == 0 {
				w.look(asked)
			}
			w.del(all[i*7%len(all)])
		}
		w.look(asked)
		if t.Failed() {
			t.Fatalf("set %b", set)
		}
	}
}

// draws answers a row of numbers that hangs on nothing.
func draws() func(below int) int {
	state := uint64(11)
	return func(below int) int {
		state = state*6364136223846793005 + 1442695040888963407
		return int(state >> 33 % uint64(below))
	}
}

// drawn is keys of so many bytes, many of which begin as others do.
func drawn(draw func(below int) int, size, count int) []string {
	stem := make([]byte, size-4)
	for i := range stem {
		stem[i] = byte(draw(256))
	}
	var l []string
	for range count {
		k := key(uint32(draw(8*(size-4)+1)), string(stem))
		for range draw(3) {
			k = flipped(k, draw(8*(size-4)))
		}
		l = append(l, k)
	}
	return l
}

// 11.1, 11.2: a table of several entries is as the plain list, in long runs, too.
func TestLongRuns(t *testing.T) {
	draw := draws()
	took := map[api.Errno]int{}
	for run := range 150 {
		size := []int{5, 6, 8, 13}[draw(4)]
		w := pairUp(t, api.MapSpec{Kind: api.MapTrie, Key: size, Value: 3, Max: 1 + draw(20)})
		keys := drawn(draw, size, 30)
		for n := range 150 {
			k, value := keys[draw(len(keys))], string([]byte{byte(n), 0xff, byte(run)})
			switch draw(16) {
			case 0:
				w.grace()
			case 1:
				w.fail()
			case 2:
				w.next(k)
			case 3, 4, 5:
				w.del(k)
			case 6:
				took[w.update(k, value[:draw(3)], draw(3))]++
			case 7:
				took[w.update(key(uint32(8*(size-4)+1+draw(300)), k[4:]), value, draw(3))]++
			default:
				took[w.update(k, value, draw(3))]++
			}
			w.look(keys[:8])
		}
		w.look(keys)
		if draw(2) == 0 {
			w.free()
			w.look(keys)
		}
		if t.Failed() {
			t.Fatalf("run %d", run)
		}
	}
	for _, e := range []api.Errno{api.OK, api.ErrArg, api.ErrMem, api.ErrFull, api.ErrNone, api.ErrExists} {
		if took[e] < 100 {
			t.Errorf("%d Updates told error %d", took[e], e)
		}
	}
}

// 11.2: prefixes of the longest keys, each of which the next one begins with: from either end, and from the middle.
func TestLongChain(t *testing.T) {
	bytes := ""
	for i := range 256 {
		bytes += string([]byte{byte(i * 37)})
	}
	forms := chain(bytes, 2048)
	for _, stride := range []int{1, 2048, 1000} { // none of them shares a divisor with 2049, so that each form comes once
		x, m := build(t, api.MapSpec{Kind: api.MapTrie, Key: 260, Value: 1, Max: len(forms)})
		at := map[int]uint64{}
		for i := range forms {
			length := i * stride % len(forms)
			wantUpdate(t, x, forms[length], "v", api.UpdateNoExist, api.OK)
			at[length] = uint64(i+1) * region
		}
		for length := range forms {
			wantAt(t, x, key(uint32(length), bytes), at[length])
		}
		for bit := range 2048 {
			wantAt(t, x, flipped(key(2048, bytes), bit), at[bit])
		}
		for length := range forms { // the even ones go
			if length%2 == 0 {
				wantDelete(t, x, key(uint32(length), bytes), api.OK)
			}
		}
		for length := range forms {
			want := at[length-1+length%2]
			if length == 0 {
				want = 0
			}
			wantAt(t, x, key(uint32(length), bytes), want)
		}
		m.Grace()
		if n := len(m.Regions()); n != 1024 || x.Len() != 1024 {
			t.Errorf("%d regions, Len %d", n, x.Len())
		}
	}
}

// 11.1, 11.2: the greatest table: 4096 entries, of which Next tells all, rising, and not one more.
func TestMostEntries(t *testing.T) {
	var forms []string
	for length := range 12 {
		for n := range 1 << length {
			forms = append(forms, key(uint32(length), string([]byte{byte(n << (16 - length) >> 8), byte(n << (16 - length))})))
		}
	}
	forms = append(forms, key(16, "\xff\xff"))
	x, m := build(t, api.MapSpec{Kind: api.MapTrie, Key: 6, Value: 3, Max: api.MaxEntries})
	for i := range forms {
		k := forms[i*1027%api.MaxEntries]
		wantUpdate(t, x, k, k[:1]+k[4:], api.UpdateNoExist, api.OK)
	}
	wantForms(t, x, forms...)
	wantUpdate(t, x, key(16, "\xff\xfe"), "new", api.UpdateAny, api.ErrFull) // ahead of ErrMem
	wantBytes(t, m, x.Lookup(key(16, "\xff\xff")), "\x10\xff\xff")
	wantBytes(t, m, x.Lookup(key(16, "\xff\xfe")), "\x0b\xff\xe0")
	wantDelete(t, x, none, api.OK)
	wantUpdate(t, x, none, "new", api.UpdateAny, api.ErrMem) // as many regions are live as may be
	m.Grace()
	wantUpdate(t, x, none, "\x00\x00\x00", api.UpdateAny, api.OK)
	for i, k := range forms {
		wantBytes(t, m, x.Lookup(k), k[:1]+k[4:])
		wantDelete(t, x, k, api.OK)
		if got := x.Len(); got != api.MaxEntries-i-1 {
			t.Fatalf("Len behind %d Deletes: %d", i+1, got)
		}
	}
	m.Grace()
	wantRegions(t, m)
}

// 11.1: all keys of one byte and all lengths: each form is told once, rising, whatever keys it came by.
func TestFormsRise(t *testing.T) {
	x, _ := build(t, api.MapSpec{Kind: api.MapTrie, Key: 5, Value: 1, Max: 511})
	for i := range 256 {
		for length := range uint32(9) {
			x.Update(key(length, string([]byte{byte(i * 77)})), "v", api.UpdateAny)
		}
	}
	if got := told(x); !slices.Equal(got, upTo(8)) {
		t.Errorf("Next tells %x", got)
	}
}

// R5: what is told hangs on what was done alone: the same calls in other memories tell the same.
func TestAgain(t *testing.T) {
	run := func() ([]string, []api.Region) {
		x, m := build(t, spec(20))
		keys := drawn(draws(), 6, 50)
		for i := range 300 {
			x.Update(keys[i*i%47], first(i), i%3)
			if i%5 == 0 {
				x.Delete(keys[i*7%50])
			}
			if i%11 == 0 {
				m.Grace()
			}
		}
		return told(x), m.Regions()
	}
	forms, regions := run()
	for range 5 {
		if k, r := run(); len(k) < 10 || !slices.Equal(k, forms) || !slices.Equal(r, regions) {
			t.Fatalf("forms %x, %d regions; the first time %x, %d regions", k, len(r), forms, len(regions))
		}
	}
}
