package shape

import (
	"portcullis/api"
	"portcullis/insn"
)

// firsts answers of each slot of the program l whether it is the first one of an instruction; if l is no program, the place of what is wrong, and the error.
func firsts(l []api.Insn) ([]bool, int, api.Errno) {
	if len(l) == 0 || len(l) > api.MaxInsns {
		return nil, 0, api.ErrForm
	}
	first := make([]bool, len(l))
	last := 0
	for at := 0; at < len(l); at += slots(l[at]) {
		if !whole(l, at) {
			return nil, at, api.ErrForm
		}
		first[at] = true
		last = at
	}
	for at, i := range l {
		if first[at] && aims(i) && !holds(first, target(i, at)) {
			return nil, at, api.ErrForm
		}
	}
	if op := l[last].Op; op != opExit && op != opGoto {
		return nil, last, api.ErrForm
	}
	return first, 0, api.OK
}

// whole answers whether the instruction at the place at may be, with all slots that it has.
func whole(l []api.Insn, at int) bool {
	if !One(l[at]) {
		return false
	}
	return !insn.Wide(l[at]) || at+1 < len(l) && tail(l[at], l[at+1])
}

// tail answers whether b may be the second slot of the wide instruction that begins with a.
func tail(a, b api.Insn) bool {
	if a.Src == wideMap {
		return b == api.Insn{}
	}
	return b == api.Insn{Imm: b.Imm} && fits(b)
}

// slots answers how many slots the instruction has that begins with i.
func slots(i api.Insn) int {
	if insn.Wide(i) {
		return 2
	}
	return 1
}

// holds answers whether at is a place, and one of those that are told.
func holds(told []bool, at int) bool { return 0 <= at && at < len(told) && told[at] }

// aims answers whether i may go to a target.
func aims(i api.Insn) bool {
	c := insn.Class(i)
	return (c == classJmp || c == classJmp32) && i.Op != opCall && i.Op != opExit
}

// target answers the place to which i, which aims and stands at the place at, may go.
func target(i api.Insn, at int) int { return at + 1 + i.Off }

// next answers the places to which the instruction of a program that begins with i at the place at may go.
func next(i api.Insn, at int) []int {
	switch {
	case i.Op == opExit:
		return nil
	case i.Op == opGoto:
		return []int{target(i, at)}
	case aims(i):
		return []int{at + 1, target(i, at)}
	}
	return []int{at + slots(i)}
}
