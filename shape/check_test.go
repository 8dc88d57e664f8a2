package shape_test

import (
	"math"
	"slices"
	"testing"

	"portcullis/api"
	"portcullis/shape"
)

// filled answers n slots of which the last one is an exit.
func filled(n int) []api.Insn {
	l := slices.Repeat([]api.Insn{{Op: 183, Dst: 1, Imm: 5}}, n)
	l[n-1] = exit
	return l
}

// 5.1: programs, in which nothing is wrong.
func TestCheckPrograms(t *testing.T) {
	for _, s := range []string{
		"exit",
		"goto -1",
		"r0 = 2;exit",
		"goto +0;exit",
		"r1 = 7 ll;exit",
		"r1 = map 3 ll;exit",
		"r1 = 18446744073709551615 ll;goto -3",
		"r1 = 24 ll;r2 = map 24 ll;exit",
		"call 5;exit",
		"if r1 == 0 goto +0;exit",
		"if r1 == 0 goto -1;exit",
		"if w1 s< w2 goto +1;r0 = 1;exit",
		"r0 = 1;if r1 == 0 goto -2;goto -3",
		"if r1 == 0 goto +2;r1 = 7 ll;exit",
		"exit;exit;r0 = 1;exit",
	} {
		wantCheck(t, slots(t, s), 0, api.OK)
	}
}

// 5.1: each row of the table is taken ahead of an exit, whatever stands around it.
func TestCheckRows(t *testing.T) {
	for _, s := range rows() {
		l := slots(t, "r0 = 1;r0 = 1;r0 = 1;"+s+";r0 = 1;r0 = 1;r0 = 1;r0 = 1;exit")
		wantCheck(t, l, 0, api.OK)
	}
}

// 5.1: no slots, as many as there may be, and one more.
func TestCheckSizes(t *testing.T) {
	wantCheck(t, nil, 0, api.ErrForm)
	wantCheck(t, []api.Insn{}, 0, api.ErrForm)
	wantCheck(t, filled(api.MaxInsns-1), 0, api.OK)
	wantCheck(t, filled(api.MaxInsns), 0, api.OK)
	wantCheck(t, filled(api.MaxInsns+1), 0, api.ErrForm)
	wantCheck(t, filled(2*api.MaxInsns), 0, api.ErrForm)
	far := filled(api.MaxInsns)
	far[0] = api.Insn{Op: 5, Off: api.MaxInsns - 2}
	far[api.MaxInsns-1] = api.Insn{Op: 5, Off: -api.MaxInsns}
	wantCheck(t, far, 0, api.OK)
	far[api.MaxInsns-1].Off--
	wantCheck(t, far, api.MaxInsns-1, api.ErrForm)
}

// 5.1: too many slots are told of ahead of all else that is wrong with them.
func TestCheckTooManyFirst(t *testing.T) {
	l := filled(api.MaxInsns + 1)
	l[7] = api.Insn{Op: 1}
	wantCheck(t, l, 0, api.ErrForm)
	wantCheck(t, l[1:], 6, api.ErrForm)
}

// 5.1: an instruction that may not be, wherever it stands.
func TestCheckOneWrong(t *testing.T) {
	for _, wrong := range []api.Insn{
		{}, {Op: 1}, {Op: 183, Dst: 10}, {Op: 103, Imm: 64}, {Op: 55}, {Op: 183, Src: 1}, {Op: 149, Imm: 1}, {Op: 6}, {Op: 97, Dst: 10, Src: 1},
		{Op: 24, Dst: 10}, {Op: 24, Src: 2}, {Op: 24, Src: 1, Imm: -1}, {Op: 439, Dst: 1}, {Op: 183, Imm: math.MaxInt}, {Op: 21, Off: -40000},
	} {
		for at := range 6 {
			l := filled(8)
			l[at] = wrong
			wantCheck(t, l, at, api.ErrForm)
		}
		wantCheck(t, []api.Insn{wrong}, 0, api.ErrForm)
		wantCheck(t, []api.Insn{exit, wrong}, 1, api.ErrForm)
	}
}

// 5.1: a wide one's second slot is zero but for Imm, and with Src 1 zero; the place is that of the first slot.
func TestCheckSecondSlots(t *testing.T) {
	number, named := api.Insn{Op: 24, Dst: 1, Imm: 7}, api.Insn{Op: 24, Dst: 1, Src: 1, Imm: 7}
	for _, c := range []struct {
		second          api.Insn
		ofNumber, ofMap bool
	}{
		{api.Insn{}, true, true},
		{api.Insn{Imm: 1}, true, false},
		{api.Insn{Imm: -1}, true, false},
		{api.Insn{Imm: math.MaxInt32}, true, false},
		{api.Insn{Imm: math.MinInt32}, true, false},
		{api.Insn{Imm: math.MaxInt32 + 1}, false, false},
		{api.Insn{Imm: math.MinInt32 - 1}, false, false},
		{api.Insn{Imm: math.MinInt}, false, false},
		{api.Insn{Op: 1}, false, false},
		{api.Insn{Op: 24}, false, false},
		{api.Insn{Op: 149}, false, false},
		{api.Insn{Op: 256}, false, false},
		{api.Insn{Dst: 1}, false, false},
		{api.Insn{Dst: -1}, false, false},
		{api.Insn{Src: 1}, false, false},
		{api.Insn{Src: 16}, false, false},
		{api.Insn{Off: 1}, false, false},
		{api.Insn{Off: -1, Imm: 1}, false, false},
	} {
		for _, w := range []struct {
			first api.Insn
			want  bool
		}{{number, c.ofNumber}, {named, c.ofMap}} {
			l := []api.Insn{{Op: 183}, w.first, c.second, exit}
			if w.want {
				wantCheck(t, l, 0, api.OK)
				continue
			}
			wantCheck(t, l, 1, api.ErrForm)
			wantCheck(t, l[1:], 0, api.ErrForm)
		}
	}
}

// 5.1: a wide one's second slot that lacks.
func TestCheckSecondSlotLacks(t *testing.T) {
	for _, wide := range []api.Insn{{Op: 24}, {Op: 24, Src: 1}} {
		wantCheck(t, []api.Insn{wide}, 0, api.ErrForm)
		wantCheck(t, []api.Insn{exit, wide}, 1, api.ErrForm)
		wantCheck(t, []api.Insn{wide, {}, wide}, 2, api.ErrForm)
		// The slot behind the list's end is none of it.
		wantCheck(t, []api.Insn{exit, wide, {}, exit}[:2], 1, api.ErrForm)
	}
}

// 5.1: a jump goes to places of instructions alone, its own place among them; a call and an exit go nowhere else.
func TestCheckTargets(t *testing.T) {
	program := func(jump api.Insn) []api.Insn {
		return []api.Insn{{Op: 24, Dst: 1}, {}, {Op: 183}, jump, {Op: 24, Dst: 1, Src: 1}, {}, exit}
	}
	const at = 3
	places := []int{0, 2, 3, 4, 6}
	for _, jump := range []api.Insn{{Op: 5}, {Op: 21}, {Op: 29, Src: 2}, {Op: 22, Imm: 7}, {Op: 222}, {Op: 69, Dst: 10}} {
		for to := -3; to < 11; to++ {
			jump.Off = to - at - 1
			if slices.Contains(places, to) {
				wantCheck(t, program(jump), 0, api.OK)
			} else {
				wantCheck(t, program(jump), at, api.ErrForm)
			}
		}
		for _, off := range []int{-32768, 32767} {
			jump.Off = off
			wantCheck(t, program(jump), at, api.ErrForm)
		}
	}
	wantCheck(t, program(api.Insn{Op: 133, Imm: 9000}), 0, api.OK)
	wantCheck(t, program(exit), 0, api.OK)
}

// 5.1: what looks like a jump in a wide one's Imm is none.
func TestCheckJumpsOfInstructionsAlone(t *testing.T) {
	wantCheck(t, []api.Insn{{Op: 24, Imm: 5}, {Imm: 21}, exit}, 0, api.OK)
}

// 5.1: the last instruction is an exit or a goto.
func TestCheckLast(t *testing.T) {
	for _, s := range rows() {
		i := slot(t, s)
		want := i.Op == 5 || i.Op == 149
		if c := i.Op % 8; c == 5 || c == 6 {
			if i.Off != 0 {
				i.Off = -1
			}
		}
		for n := range 4 {
			l := append(slices.Repeat([]api.Insn{exit}, n), i)
			if want {
				wantCheck(t, l, 0, api.OK)
			} else {
				wantCheck(t, l, n, api.ErrForm)
			}
		}
	}
	wantCheck(t, slots(t, "exit;r1 = 7 ll"), 1, api.ErrForm)
	wantCheck(t, slots(t, "exit;exit;r1 = map 7 ll"), 2, api.ErrForm)
	// An exit's number in the last slot's Imm ends nothing.
	wantCheck(t, []api.Insn{{Op: 24, Imm: 149}, {Imm: 149}}, 0, api.ErrForm)
}

// 5.1: of two things of one kind the first is told.
func TestCheckTwoOfOneKind(t *testing.T) {
	l := filled(8)
	l[2], l[5] = api.Insn{Op: 1}, api.Insn{Op: 24, Dst: 10}
	wantCheck(t, l, 2, api.ErrForm)
	l[2], l[5] = l[5], l[2]
	wantCheck(t, l, 2, api.ErrForm)
	l = filled(8)
	l[3], l[6] = api.Insn{Op: 21, Off: 100}, api.Insn{Op: 5, Off: -100}
	wantCheck(t, l, 3, api.ErrForm)
	l[3], l[6] = api.Insn{Op: 5, Off: -100}, api.Insn{Op: 30, Off: 100}
	wantCheck(t, l, 3, api.ErrForm)
}

// 5.1: of things of two kinds the first kind is told: what may not be, then a target, then the end.
func TestCheckTwoKinds(t *testing.T) {
	lost := api.Insn{Op: 21, Off: 100}
	never := api.Insn{Op: 1}
	plain := api.Insn{Op: 183}
	for _, c := range []struct {
		l  []api.Insn
		at int
	}{
		{[]api.Insn{lost, never, exit}, 1},
		{[]api.Insn{never, lost, exit}, 0},
		{[]api.Insn{plain, lost, {Op: 24}, {Op: 5}, exit}, 2},
		{[]api.Insn{plain, lost, plain}, 1},
		{[]api.Insn{plain, plain, lost}, 2},
		{[]api.Insn{plain, never, plain}, 1},
		{[]api.Insn{plain, plain, never}, 2},
		{[]api.Insn{lost, exit, {Op: 24}}, 2},
		{[]api.Insn{lost, plain, never, plain}, 2},
		{[]api.Insn{{Op: 21, Off: 1}, plain, plain}, 2},
		{[]api.Insn{{Op: 21, Off: 2}, plain, plain}, 0},
	} {
		wantCheck(t, c.l, c.at, api.ErrForm)
	}
}

// 5.1: Check of drawn lists tells what chapter 4's lines tell.
func TestCheckAsTheLinesTell(t *testing.T) {
	draw := draws()
	programs := 0
	for range 20000 {
		l := drawProgram(draw)
		_, at, e := read(l)
		wantCheck(t, l, at, e)
		if e == api.OK {
			programs++
		}
	}
	if programs < 5000 || programs > 15000 {
		t.Errorf("%d programs of 20000 lists", programs)
	}
}

// R4, R5: lists stay as they were, behind their ends too, and each answer is new and the same.
func TestListsStayAsTheyWere(t *testing.T) {
	l := slots(t, "r1 = map 3 ll;if r1 == 0 goto +2;r1 = map 4 ll;exit;r1 = map 5 ll;exit")
	n := len(l) - 3
	kept := slices.Clone(l)
	for range 3 {
		wantCheck(t, l[:n], 0, api.OK)
		wantNext(t, l[:n], 2, 3, 5)
		wantMaps(t, l[:n], 3, 4)
		wantReaches(t, l[:n], "111111")
		clear(shape.Next(l[:n], 2))
		clear(shape.Maps(l[:n]))
		clear(shape.Reaches(l[:n]))
		for _, i := range l[:n] {
			shape.One(i)
		}
	}
	if !slices.Equal(l, kept) {
		t.Error("the list was changed")
	}
}
