package btf

import "portcullis/api"

// How a blob is laid.
const (
	opening     = "\x9f\xeb\x01\x00\x18\x00\x00\x00" // with which each one begins
	headBytes   = len(opening) + 4*numberBytes
	numberBytes = 4
	nameEnd     = "\x00"
)

// How a number tells a type's kind and its parts. They have but 16 bits of the lowest 24; a number with others beside them tells more parts than there may be.
const (
	kindShift = 24
	partsMask = 1<<kindShift - 1
)

// writer lays types, and their names beside them, each once.
type writer struct {
	types, names []byte
	begins       map[string]int // where a name begins within names
}

// newWriter answers a writer that has laid the empty name alone.
func newWriter() *writer {
	return &writer{names: []byte(nameEnd), begins: map[string]int{"": 0}}
}

// put lays a type that may be.
func (w *writer) put(t api.BtfType) {
	w.numbers(w.place(t.Name), t.Kind<<kindShift|len(t.Members))
	switch t.Kind {
	case api.BtfInt:
		w.numbers(t.Size, 8*t.Size)
	case api.BtfPtr, api.BtfTypedef:
		w.numbers(t.Type)
	case api.BtfArray:
		w.numbers(0, t.Type, 0, t.Count)
	case api.BtfStruct:
		w.numbers(t.Size)
	}
	for _, m := range t.Members {
		w.numbers(w.place(m.Name), m.Type, m.Off)
	}
}

// place answers where a name begins, and lays it, unless it stands there.
func (w *writer) place(name string) int {
	from, ok := w.begins[name]
	if !ok {
		from = len(w.names)
		w.begins[name] = from
		w.names = append(append(w.names, name...), nameEnd...)
	}
	return from
}

// numbers lays numbers among the types.
func (w *writer) numbers(l ...int) { w.types = appendNumbers(w.types, l...) }

// blob answers all that is laid, behind its head.
func (w *writer) blob() string {
	b := appendNumbers([]byte(opening), 0, len(w.types), len(w.types), len(w.names))
	return string(append(append(b, w.types...), w.names...))
}

// appendNumbers lays numbers behind b.
func appendNumbers(b []byte, l ...int) []byte {
	for _, n := range l {
		b = append(b, byte(n), byte(n>>8), byte(n>>16), byte(n>>24))
	}
	return b
}
