package btf

import (
	"strings"

	"portcullis/api"
)

// reader reads types one behind the other. What can't be read leaves a mark, so that each number is read without asking after the one ahead of it.
type reader struct {
	types string // those that are not read yet
	names string
	wrong bool // the bytes are no blob's
}

// open answers a reader of the types of s; false, if s is none of a blob's, whatever the types are.
func open(s string) (*reader, bool) {
	if len(s) < headBytes || !strings.HasPrefix(s, opening) {
		return nil, false
	}
	head, rest := s[len(opening):headBytes], s[headBytes:]
	types, typesLie := part(rest, head)
	names, namesLie := part(rest, head[2*numberBytes:])
	if !typesLie || !namesLie || !strings.HasPrefix(names, nameEnd) {
		return nil, false
	}
	return &reader{types: types, names: names}, true
}

// part answers the part of s that lies where the first number of head says, and has as many bytes as the second one says; false, if it doesn't lie within s.
func part(s, head string) (string, bool) {
	from := uint64(numberOf(head))
	end := from + uint64(numberOf(head[numberBytes:]))
	if end > uint64(len(s)) {
		return "", false
	}
	return s[from:end], true
}

// next reads a type.
func (r *reader) next() api.BtfType {
	t := api.BtfType{Name: r.name()}
	word := r.number()
	t.Kind = word >> kindShift
	parts := word & partsMask
	if parts > mostMembers {
		r.wrong = true
		return t
	}
	r.body(&t)
	for range parts {
		t.Members = append(t.Members, api.BtfMember{Name: r.name(), Type: r.number(), Off: r.number()})
	}
	return t
}

// body reads what a type of t's kind has ahead of its members.
func (r *reader) body(t *api.BtfType) {
	first := r.number()
	switch t.Kind {
	case api.BtfArray:
		r.want(first == 0)
		t.Type = r.number()
		r.want(r.number() == 0)
		t.Count = r.number()
	case api.BtfInt:
		r.want(r.number() == 8*first)
		fallthrough // an int begins as a struct does
	case api.BtfStruct:
		t.Size = first
	case api.BtfPtr, api.BtfTypedef:
		t.Type = first
	}
}

// name reads where a name begins, and answers the name.
func (r *reader) name() string {
	from := r.number()
	if from >= len(r.names) {
		r.wrong = true
		return ""
	}
	// A name that doesn't end, or ends too late, is looked through no further than any may go.
	name, _, ends := strings.Cut(r.names[from:min(len(r.names), from+mostName+1)], nameEnd)
	r.want(ends)
	return strings.Clone(name)
}

// number reads a number.
func (r *reader) number() int {
	if len(r.types) < numberBytes {
		r.wrong = true
		return 0
	}
	n := numberOf(r.types)
	r.types = r.types[numberBytes:]
	return int(n)
}

// want marks the bytes, unless ok.
func (r *reader) want(ok bool) {
	if !ok {
		r.wrong = true
	}
}

// numberOf answers the number with which s begins.
func numberOf(s string) uint32 {
	return uint32(s[0]) | uint32(s[1])<<8 | uint32(s[2])<<16 | uint32(s[3])<<24
}
