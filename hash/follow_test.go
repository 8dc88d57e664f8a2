package hash_test

import (
	"slices"
	"strconv"
	"testing"

	"portcullis/api"
	"portcullis/hash"
)

// step is a call, told by its name; n is another number with each step.
type step struct {
	name string
	do   func(w twins, n int)
}

// steps is calls on a table of which three keys are asked.
func steps() []step {
	l := []step{
		{"Grace", func(w twins, n int) { w.grace() }},
		{"Fail(1)", func(w twins, n int) { w.fail() }},
		{"Free", func(w twins, n int) { w.free() }},
		{"Update(aa, 1)", func(w twins, n int) { w.update("aa", value(n), api.UpdateNoExist) }},
		{"Update(cc, 2)", func(w twins, n int) { w.update("cc", value(n), api.UpdateExist) }},
		{"Delete(bb)", func(w twins, n int) { w.del("bb") }},
	}
	for _, k := range []string{"aa", "bb", "cc"} {
		l = append(l,
			step{"Lookup(" + k + ")", func(w twins, n int) { w.lookup(k) }},
			step{"Update(" + k + ", 0)", func(w twins, n int) { w.update(k, value(n), api.UpdateAny) }},
		)
	}
	return l
}

// value is a value of 3 bytes, another one for each n.
func value(n int) string { return string([]byte{byte(n), byte(n >> 8), 0xff}) }

// 10.2, 10.3: whatever four calls are done one behind the other, on an empty table and on a full one, a table of two entries is as the plain one.
func TestAllShortRuns(t *testing.T) {
	const deep = 4
	l := steps()
	runs := 1
	for range deep {
		runs *= len(l)
	}
	for _, kind := range kinds {
		for _, keys := range [][]string{nil, {"aa", "bb"}} {
			for run := range runs {
				w := pairUp(t, spec(kind, 2))
				for i, k := range keys {
					w.update(k, value(1000+i), api.UpdateAny)
				}
				names, rest := "", run
				for n := range deep {
					s := l[rest%len(l)]
					names, rest = names+" "+s.name, rest/len(l)
					s.do(w, n)
				}
				w.look()
				if t.Failed() {
					t.Fatalf("kind %d, with %q, behind%s", kind, keys, names)
				}
			}
		}
	}
}

// draws answers a row of numbers that hangs on nothing.
func draws() func(below int) int {
	state := uint64(10)
	return func(below int) int {
		state = state*6364136223846793005 + 1442695040888963407
		return int(state >> 33 % uint64(below))
	}
}

// 10.2, 10.3: a table of several entries is as the plain one, in long runs, too.
func TestLongRuns(t *testing.T) {
	draw := draws()
	took := map[api.Errno]int{}
	for run := range 200 {
		most := 1 + draw(9)
		w := pairUp(t, api.MapSpec{Kind: kinds[run%2], Key: 2, Value: 3, Max: most})
		keys := row(most + 1 + draw(4))
		for n := range 200 {
			k := keys[draw(len(keys))]
			switch draw(20) {
			case 0:
				w.grace()
			case 1:
				w.fail()
			case 2:
				w.next(k[:draw(3)])
			case 3, 4:
				w.del(k)
			case 5, 6, 7, 8:
				w.lookup(k)
			case 9:
				took[w.update(k[:draw(2)], value(n), api.UpdateAny)]++
			default:
				took[w.update(k, value(n), draw(3))]++
			}
			w.look()
		}
		if draw(2) == 0 {
			w.free()
			w.look()
		}
		if t.Failed() {
			t.Fatalf("run %d", run)
		}
	}
	for _, e := range []api.Errno{api.OK, api.ErrArg, api.ErrMem, api.ErrFull, api.ErrNone, api.ErrExists} {
		if took[e] < 100 {
			t.Errorf("%d Updates told error %d", took[e], e)
		}
	}
}

// 10.3: however many Updates, there are never more than Max entries; all that the table has is found.
func TestNeverMoreThanMax(t *testing.T) {
	for _, kind := range kinds {
		for _, most := range []int{1, 2, 3, 7, 64} {
			x, m := build(t, spec(kind, most))
			keys := row(3*most + 2)
			for i, k := range keys {
				want := api.OK
				if kind == api.MapHash && i >= most {
					want = api.ErrFull
				}
				wantUpdate(t, x, k, first(k), api.UpdateAny, want)
				due := keys[max(0, i+1-most) : i+1]
				if kind == api.MapHash {
					due = keys[:min(i+1, most)]
				}
				wantKeys(t, x, due...)
				if i%5 == 0 {
					m.Grace()
				}
			}
			m.Grace()
			if n := len(m.Regions()); n != most {
				t.Errorf("kind %d, Max %d: %d regions", kind, most, n)
			}
			for _, k := range told(x) {
				wantBytes(t, m, x.Lookup(k), first(k))
			}
		}
	}
}

// 10.3: the greatest table: 4096 entries, of which Next tells all, rising, and not one more.
func TestMostEntries(t *testing.T) {
	keys := row(api.MaxEntries + 1)
	for _, kind := range kinds {
		x, m := build(t, api.MapSpec{Kind: kind, Key: 2, Value: 3, Max: api.MaxEntries})
		for i := range api.MaxEntries {
			k := keys[i*1027%api.MaxEntries] // no order that Next could have by itself
			wantUpdate(t, x, k, first(k), api.UpdateNoExist, api.OK)
		}
		wantKeys(t, x, keys[:api.MaxEntries]...)
		want := api.ErrFull
		if kind == api.MapLru {
			want = api.ErrMem // as many regions are live as may be
		}
		wantUpdate(t, x, keys[api.MaxEntries], "new", api.UpdateAny, want)
		for i, k := range keys[:api.MaxEntries] {
			wantBytes(t, m, x.Lookup(k), first(k))
			wantDelete(t, x, k, api.OK)
			if got := x.Len(); got != api.MaxEntries-i-1 {
				t.Fatalf("Len behind %d Deletes: %d", i+1, got)
			}
		}
		m.Grace()
		wantRegions(t, m)
	}
}

// 10.3: all keys of one byte are told, rising, in whatever order they came.
func TestKeysRise(t *testing.T) {
	for _, kind := range kinds {
		for _, stride := range []int{1, 3, 77, 255} {
			x, _ := build(t, api.MapSpec{Kind: kind, Key: 1, Value: 1, Max: 256})
			var all []string
			for i := range 256 {
				wantUpdate(t, x, string([]byte{byte(i * stride)}), "v", api.UpdateNoExist, api.OK)
				all = append(all, string([]byte{byte(i)}))
			}
			if got := told(x); !slices.Equal(got, all) {
				t.Errorf("Next tells %q", got)
			}
		}
	}
}

// 10.3: an address is good while its entry is there, for whatever is written through it or by Updates.
func TestAddressStays(t *testing.T) {
	for _, kind := range kinds {
		x, m := with(t, kind, 3, "aa", "bb")
		at := x.Lookup("aa")
		for i := range 20 {
			wantErr(t, "Write", m.Write(at+1, 2, uint64(i)), api.OK)
			wantBytes(t, m, x.Lookup("aa"), "a"+string([]byte{byte(i), 0}))
			wantUpdate(t, x, "aa", "a-"+strconv.Itoa(i%10), api.UpdateExist, api.OK)
			wantBytes(t, m, at, "a-"+strconv.Itoa(i%10))
			m.Grace()
		}
		wantAt(t, x, "aa", at)
		wantBytes(t, m, x.Lookup("bb"), "bb1")
	}
}

// 10.3: behind Delete, and behind the Update for which it goes, an address is good until Grace, for reads and writes, and tells FaultFreed then.
func TestAddressUntilGrace(t *testing.T) {
	for what, letGo := range map[string]func(x *hash.Map){
		"Delete": func(x *hash.Map) { x.Delete("aa") },
		"Update": func(x *hash.Map) { x.Update("bb", "bb1", api.UpdateAny) },
		"Delete and Update": func(x *hash.Map) {
			x.Delete("aa")
			x.Update("aa", "aa2", api.UpdateAny)
		},
		"Delete and Free": func(x *hash.Map) {
			x.Delete("aa")
			x.Free()
		},
	} {
		x, m := with(t, api.MapLru, 1, "aa")
		at := x.Lookup("aa")
		letGo(x)
		if x.Lookup("aa") == at {
			t.Errorf("%s: aa is there still", what)
		}
		wantBytes(t, m, at, "aa1")
		wantErr(t, what+", Write", m.Write(at, 2, 0x6261), api.OK)
		wantBytes(t, m, at, "ab1")
		m.Grace()
		wantFault(t, m, at, api.FaultFreed)
		wantErr(t, what+", Write", m.Write(at, 1, 0), api.FaultFreed)
	}
}

// R5: what is told hangs on what was done alone: the same calls in other memories tell the same.
func TestAgain(t *testing.T) {
	run := func() ([]string, []api.Region) {
		x, m := build(t, spec(api.MapLru, 20))
		keys := row(50)
		for i := range 300 {
			x.Update(keys[i*i%47], value(i), i%3)
			x.Lookup(keys[i*7%50])
			if i%11 == 0 {
				m.Grace()
			}
		}
		return told(x), m.Regions()
	}
	keys, regions := run()
	for range 5 {
		if k, r := run(); len(k) != 20 || !slices.Equal(k, keys) || !slices.Equal(r, regions) {
			t.Fatalf("keys %q, %d regions; the first time %q, %d regions", k, len(r), keys, len(regions))
		}
	}
}
