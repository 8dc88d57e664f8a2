package layout

import (
	"math"
	"slices"

	"portcullis/api"
)

// closed is later than any type is met.
const closed = math.MaxInt

// walk goes from each type to those that it holds, and parts them into rings: the types of a ring lead to each other. A type is open from when it is met until all of its ring are known.
type walk struct {
	list  []api.BtfType
	met   []int // by a type's number: how many were met with it, 0 of one that was not, closed of one that is no longer open
	count int   // how many were met
	open  []int // in the order in which they were met
	order []int // those that are closed, each behind the ones to which it leads
	loops []int // those that hold themselves
}

// partsFirst answers the numbers of all types, each behind those that it holds; an error, if one holds itself.
func partsFirst(l []api.BtfType) ([]int, error) {
	w := walk{list: l, met: make([]int, len(l)+1)}
	for k := range l {
		w.visit(k + 1)
	}
	if len(w.loops) > 0 {
		return nil, &fault{slices.Min(w.loops), errHolds}
	}
	return w.order, nil
}

// visit meets the type id and all that it leads to, unless it was met, and answers when the earliest one was met that is open and to which it leads.
func (w *walk) visit(id int) int {
	if w.met[id] != 0 {
		return w.met[id]
	}
	w.count++
	mine, from := w.count, len(w.open)
	w.met[id] = mine
	w.open = append(w.open, id)
	earliest := mine
	for _, part := range parts(w.list[id-1]) {
		earliest = min(earliest, w.visit(part))
		if part == id {
			w.loops = append(w.loops, id)
		}
	}
	// What leads to none ahead of itself is the first of its ring, and what is open behind it is the rest.
	if earliest == mine {
		w.close(from)
	}
	return earliest
}

// close takes the types that are open from a place on as a ring.
func (w *walk) close(from int) {
	ring := w.open[from:]
	for _, id := range ring {
		w.met[id] = closed
	}
	if len(ring) > 1 {
		w.loops = append(w.loops, ring...)
	}
	w.order = append(w.order, ring...)
	w.open = w.open[:from]
}

// parts answers the numbers of the types that one holds.
func parts(one api.BtfType) []int {
	switch one.Kind {
	case api.BtfTypedef, api.BtfArray:
		return []int{one.Type}
	case api.BtfStruct:
		out := make([]int, len(one.Members))
		for k, m := range one.Members {
			out[k] = m.Type
		}
		return out
	}
	return nil
}
