package maps_test

import (
	"testing"

	"portcullis/api"
)

// 13.2: the chapter's example.
func TestPushOfHash(t *testing.T) {
	x, m := build(t, sample(api.MapHash))
	wantPush(t, x, "abc", 0, api.ErrArg)
	wantNext(t, x, "", "", api.ErrNone)
	wantRegions(t, m)
}

// 13.2: an array does what layer 8 has; its CPU is any one.
func TestArray(t *testing.T) {
	x, m := build(t, sample(api.MapArray))
	for _, cpu := range anyCpus {
		wantAt(t, x, key(0), cpu, at(1))
		wantAt(t, x, key(1), cpu, at(1)+8)
		wantAt(t, x, key(2), cpu, 0)
		wantUpdate(t, x, key(1), "abc", api.UpdateAny, cpu, api.OK)
		wantRegions(t, m, live(1, "\x00\x00\x00\x00\x00\x00\x00\x00abc\x00\x00\x00\x00\x00"))
		wantUpdate(t, x, key(1), "def", api.UpdateExist, cpu, api.OK)
		wantRegions(t, m, live(1, "\x00\x00\x00\x00\x00\x00\x00\x00def\x00\x00\x00\x00\x00"))
		wantUpdate(t, x, key(1), "ghi", api.UpdateNoExist, cpu, api.ErrExists)
		wantUpdate(t, x, key(2), "ghi", api.UpdateNoExist, cpu, api.ErrFull)
		wantUpdate(t, x, key(1)[:3], "ghi", api.UpdateAny, cpu, api.ErrArg)
		wantUpdate(t, x, key(1), "gh", api.UpdateAny, cpu, api.ErrArg)
		wantUpdate(t, x, key(1), "ghi", -1, cpu, api.ErrArg)
		wantUpdate(t, x, key(1), "ghi", 3, cpu, api.ErrArg)
	}
	wantAt(t, x, "", 0, 0)
	for _, k := range []string{key(0), key(1), key(2), ""} {
		wantDelete(t, x, k, api.ErrArg)
	}
	wantNext(t, x, "", key(0), api.OK)
	wantNext(t, x, key(0), key(1), api.OK)
	wantNext(t, x, key(1), "", api.ErrNone)
	wantNext(t, x, key(2), key(0), api.OK)
	wantRegions(t, m, live(1, "\x00\x00\x00\x00\x00\x00\x00\x00def\x00\x00\x00\x00\x00"))
}

// 13.2: an array for each CPU does what layer 8 has; -1 is all CPUs of Update, and none of Lookup.
func TestCpuArray(t *testing.T) {
	x, m := build(t, api.MapSpec{Kind: api.MapCpu, Key: 4, Value: 8, Max: 1})
	for _, cpu := range anyCpus {
		want := uint64(0)
		if cpu >= 0 && cpu < 3 {
			want = at(1 + cpu)
		}
		wantAt(t, x, key(0), cpu, want)
		if want == 0 && cpu != -1 {
			wantUpdate(t, x, key(0), "nowhere.", api.UpdateAny, cpu, api.ErrArg)
		}
		wantAt(t, x, key(1), cpu, 0)
	}
	wantAt(t, x, key(0), 2, at(3))
	wantAt(t, x, key(0), 3, 0)
	wantUpdate(t, x, key(0), "every of", api.UpdateAny, -1, api.OK)
	wantRegions(t, m, live(1, "every of"), live(2, "every of"), live(3, "every of"))
	wantUpdate(t, x, key(0), "them but", api.UpdateExist, 1, api.OK)
	wantUpdate(t, x, key(0), "all over", api.UpdateAny, 2, api.OK)
	wantUpdate(t, x, key(0), "nowhere.", api.UpdateAny, 3, api.ErrArg)
	wantUpdate(t, x, key(0), "nowhere.", api.UpdateNoExist, 0, api.ErrExists)
	wantUpdate(t, x, key(1), "nowhere.", api.UpdateAny, -1, api.ErrFull)
	wantRegions(t, m, live(1, "every of"), live(2, "them but"), live(3, "all over"))
	wantDelete(t, x, key(0), api.ErrArg)
	wantNext(t, x, key(1), key(0), api.OK)
	wantNext(t, x, key(0), "", api.ErrNone)
}

// 13.2: a table does what layer 10 has; the CPU plays no part.
func TestHash(t *testing.T) {
	for _, cpu := range anyCpus {
		x, m := build(t, sample(api.MapHash))
		wantAt(t, x, "aa", cpu, 0)
		wantUpdate(t, x, "aa", "one", api.UpdateExist, cpu, api.ErrNone)
		wantUpdate(t, x, "ab", "one", api.UpdateNoExist, cpu, api.OK)
		wantUpdate(t, x, "ab", "two", api.UpdateNoExist, cpu, api.ErrExists)
		wantUpdate(t, x, "a", "two", api.UpdateAny, cpu, api.ErrArg)
		wantUpdate(t, x, "ab", "tw", api.UpdateAny, cpu, api.ErrArg)
		wantUpdate(t, x, "ab", "two", -1, cpu, api.ErrArg)
		wantUpdate(t, x, "ab", "two", 3, cpu, api.ErrArg)
		wantUpdate(t, x, "ab", "two", api.UpdateExist, cpu, api.OK)
		wantAt(t, x, "ab", cpu, at(1))
		m.Fail(1)
		wantUpdate(t, x, "aa", "one", api.UpdateAny, cpu, api.ErrMem)
		wantUpdate(t, x, "aa", "one", api.UpdateAny, cpu, api.OK)
		wantUpdate(t, x, "zz", "one", api.UpdateAny, cpu, api.ErrFull)
		wantAt(t, x, "aa", cpu, at(2))
		wantRegions(t, m, live(1, "two"), live(2, "one"))
		wantNext(t, x, "", "aa", api.OK)
		wantNext(t, x, "aa", "ab", api.OK)
		wantNext(t, x, "ab", "", api.ErrNone)
		wantDelete(t, x, "a", api.ErrArg)
		wantDelete(t, x, "zz", api.ErrNone)
		wantDelete(t, x, "ab", api.OK)
		wantAt(t, x, "ab", cpu, 0)
		wantNumbers(t, m, 1, 2)
		m.Grace()
		wantNumbers(t, m, 2)
	}
}

// 13.2: a table that forgets lets go what was used longest ago; Lookup and Update of any CPU use an entry, and no other call does.
func TestLru(t *testing.T) {
	for _, cpu := range anyCpus {
		x, m := build(t, sample(api.MapLru))
		wantUpdate(t, x, "aa", "one", api.UpdateAny, cpu, api.OK)
		wantUpdate(t, x, "bb", "two", api.UpdateAny, cpu, api.OK)
		wantAt(t, x, "aa", cpu, at(1))
		wantUpdate(t, x, "cc", "two", api.UpdateAny, cpu, api.OK)
		wantAt(t, x, "bb", cpu, 0)
		wantUpdate(t, x, "aa", "six", api.UpdateExist, cpu, api.OK)
		wantNext(t, x, "bb", "cc", api.OK)
		wantErr(t, "Push", x.Push("cc", 0), api.ErrArg)
		wantUpdate(t, x, "dd", "two", api.UpdateNoExist, cpu, api.OK)
		wantAt(t, x, "cc", cpu, 0)
		wantAt(t, x, "aa", cpu, at(1))
		wantAt(t, x, "dd", cpu, at(4))
		m.Grace()
		wantRegions(t, m, live(1, "six"), live(4, "two"))
	}
}

// 13.2: a table of prefixes does what layer 11 has; the CPU plays no part.
func TestTrie(t *testing.T) {
	const wide, narrow, lone, none = "\x08\x00\x00\x00a\x00", "\x0c\x00\x00\x00ab", "\x10\x00\x00\x00ab", "\x11\x00\x00\x00ab"
	for _, cpu := range anyCpus {
		x, m := build(t, sample(api.MapTrie))
		wantUpdate(t, x, wide, "one", api.UpdateExist, cpu, api.ErrNone)
		m.Fail(1)
		wantUpdate(t, x, wide, "one", api.UpdateAny, cpu, api.ErrMem)
		wantUpdate(t, x, wide, "one", api.UpdateNoExist, cpu, api.OK)
		wantUpdate(t, x, "\x08\x00\x00\x00az", "two", api.UpdateNoExist, cpu, api.ErrExists)
		wantUpdate(t, x, narrow, "two", api.UpdateAny, cpu, api.OK)
		wantUpdate(t, x, lone, "two", api.UpdateAny, cpu, api.ErrFull)
		wantUpdate(t, x, none, "two", api.UpdateAny, cpu, api.ErrArg)
		wantUpdate(t, x, wide, "tw", api.UpdateAny, cpu, api.ErrArg)
		wantUpdate(t, x, wide, "two", 3, cpu, api.ErrArg)
		wantAt(t, x, lone, cpu, at(2))
		wantAt(t, x, "\x10\x00\x00\x00az", cpu, at(1))
		wantAt(t, x, "\x10\x00\x00\x00ba", cpu, 0)
		wantAt(t, x, none, cpu, 0)
		wantNext(t, x, "", wide, api.OK)
		wantNext(t, x, wide, "\x0c\x00\x00\x00a`", api.OK)
		wantNext(t, x, narrow, "", api.ErrNone)
		wantDelete(t, x, none, api.ErrArg)
		wantDelete(t, x, lone, api.ErrNone)
		wantDelete(t, x, narrow, api.OK)
		wantAt(t, x, lone, cpu, at(1))
		wantRegions(t, m, live(1, "one"), live(2, "two"))
		m.Grace()
		wantRegions(t, m, live(1, "one"))
	}
}

// 13.2: a queue and a stack do what layer 9 has.
func TestQueueAndStack(t *testing.T) {
	for _, c := range []struct {
		kind        int
		first, last string
	}{
		{api.MapQueue, "two", "six"},
		{api.MapStack, "six", "two"},
	} {
		x, m := build(t, sample(c.kind))
		wantPop(t, x, "", api.ErrNone)
		wantPeek(t, x, "", api.ErrNone)
		wantPush(t, x, "one", 0, api.OK)
		wantPush(t, x, "two", 2, api.OK)
		wantPush(t, x, "six", 0, api.ErrFull)
		wantPush(t, x, "six", 1, api.ErrArg)
		wantPush(t, x, "six", 3, api.ErrArg)
		wantPush(t, x, "six", -1, api.ErrArg)
		wantPush(t, x, "sixs", 2, api.ErrArg)
		wantPush(t, x, "six", 2, api.OK)
		wantPeek(t, x, c.first, api.OK)
		wantPeek(t, x, c.first, api.OK)
		wantPop(t, x, c.first, api.OK)
		wantPeek(t, x, c.last, api.OK)
		wantPop(t, x, c.last, api.OK)
		wantPop(t, x, "", api.ErrNone)
		wantRegions(t, m)
	}
}

// 13.2: a ring does what layer 12 has; End with keep submits a record, without it discards it.
func TestRing(t *testing.T) {
	x, m := build(t, sample(api.MapRing))
	wantReserve(t, x, 0, 0, api.ErrArg)
	wantReserve(t, x, 33, 0, api.ErrArg)
	m.Fail(1)
	wantReserve(t, x, 8, 0, api.ErrMem)
	wantReserve(t, x, 8, at(1), api.OK)
	wantReserve(t, x, 3, at(2), api.OK)
	wantReserve(t, x, 8, at(3), api.OK)
	wantReserve(t, x, 9, 0, api.ErrFull)
	wantOutput(t, x, "ninebytes", api.ErrFull)
	wantOutput(t, x, "", api.ErrArg)
	wantOutput(t, x, row(33), api.ErrArg)
	m.Fail(1)
	wantOutput(t, x, "out", api.ErrMem)
	wantOutput(t, x, "out", api.OK)
	m.Put(at(1), "kept, so")
	m.Put(at(2), "not")
	for _, keep := range []bool{false, true} {
		wantEnd(t, x, 0, keep, api.ErrArg)
		wantEnd(t, x, at(1)+1, keep, api.ErrArg)
		wantEnd(t, x, at(4), keep, api.ErrArg)
	}
	wantEnd(t, x, at(2), false, api.OK)
	wantDrain(t, x)
	wantEnd(t, x, at(1), true, api.OK)
	for _, keep := range []bool{false, true} {
		wantEnd(t, x, at(1), keep, api.ErrArg)
		wantEnd(t, x, at(2), keep, api.ErrArg)
	}
	wantDrain(t, x, "kept, so")
	wantDrain(t, x)
	wantEnd(t, x, at(3), false, api.OK)
	wantDrain(t, x, "out")
	wantNumbers(t, m, 1, 2, 3, 4)
	m.Grace()
	wantRegions(t, m)
}

// R4: what Drain hands out is nobody else's.
func TestDrainIsNew(t *testing.T) {
	x, _ := build(t, sample(api.MapRing))
	wantOutput(t, x, "one", api.OK)
	l := x.Drain()
	wantOutput(t, x, "two", api.OK)
	l[0] = "six"
	wantDrain(t, x, "two")
}
