package layout

import (
	"errors"

	"portcullis/api"
)

// pointerSize is how many bytes a pointer has.
const pointerSize = 8

// sized is how many bytes a type has, or why it has no size.
type sized struct {
	n   int
	why error
}

// types are types, and their sizes.
type types struct {
	list  []api.BtfType
	sizes []sized // by number, with that of nothing ahead
}

// measured answers the types of l, which hold none but those ahead of them in order.
func measured(l []api.BtfType, order []int) *types {
	t := &types{list: l, sizes: make([]sized, len(l)+1)}
	t.sizes[0].why = errVoid
	for _, id := range order {
		n, why := t.measure(l[id-1])
		t.sizes[id] = sized{n, why}
	}
	return t
}

// measure answers the size of one; what it holds is measured.
func (t *types) measure(one api.BtfType) (int, error) {
	switch one.Kind {
	case api.BtfPtr:
		return pointerSize, nil
	case api.BtfTypedef:
		return t.size(one.Type)
	case api.BtfArray:
		return t.repeated(one.Type, one.Count)
	}
	return one.Size, nil
}

// repeated answers how many bytes count of the type id have: none of it are no bytes, though one may be too large. The product is looked at ahead of being made, as it might leave an int of 32 bits.
func (t *types) repeated(id, count int) (int, error) {
	if count == 0 {
		return 0, nil
	}
	n, why := t.size(id)
	if why == nil && n > mostSize/count {
		why = errLarge
	}
	if why != nil {
		return 0, why
	}
	return count * n, nil
}

// has answers whether id is the number of a type, or of nothing.
func (t *types) has(id int) bool { return id == 0 || leads(id, len(t.list)) }

// size answers the size of the type id, or why it has none.
func (t *types) size(id int) (int, error) {
	if !t.has(id) {
		return 0, errNumber
	}
	return t.sizes[id].n, t.sizes[id].why
}

// at answers the type id; of nothing one of no kind.
func (t *types) at(id int) api.BtfType {
	if id == 0 {
		return api.BtfType{}
	}
	return t.list[id-1]
}

// strip answers the type that is no typedef to which the type id leads.
func (t *types) strip(id int) (int, error) {
	if !t.has(id) {
		return 0, errNumber
	}
	for t.at(id).Kind == api.BtfTypedef {
		id = t.at(id).Type
	}
	return id, nil
}

// field answers behind how many bytes of the type id that lies to which path leads, and its type.
func (t *types) field(id int, path []string) (int, int, error) {
	if !t.has(id) {
		return 0, 0, errNumber
	}
	off := 0
	for _, name := range path {
		m, err := t.member(id, name)
		if err != nil {
			return 0, 0, err
		}
		off, id = off+m.Off/8, m.Type
	}
	return off, id, nil
}

// member answers the first member of the name that the type id has, where typedefs have led to a struct.
func (t *types) member(id int, name string) (api.BtfMember, error) {
	to, err := t.strip(id)
	if err != nil {
		return api.BtfMember{}, err
	}
	if one := t.at(to); one.Kind == api.BtfStruct && name != "" {
		for _, m := range one.Members {
			if m.Name == name {
				return m, nil
			}
		}
	}
	return api.BtfMember{}, errField
}

// fit answers why the types key and value are not those of a map's keys and values.
func (t *types) fit(key, value int, m api.MapSpec) error {
	keyBytes, err := t.bytes(key)
	if err != nil {
		return err
	}
	valueBytes, err := t.bytes(value)
	if err != nil {
		return err
	}
	if keyBytes != m.Key || valueBytes != m.Value {
		return errOther
	}
	return nil
}

// bytes is size, but that nothing has 0 bytes.
func (t *types) bytes(id int) (int, error) {
	n, err := t.size(id)
	if errors.Is(err, errVoid) {
		return 0, nil
	}
	return n, err
}
