package layout

import (
	"errors"

	"portcullis/api"
)

// The limits that are the chapter's own.
const (
	mostCount  = 1 << 16 // of an array
	mostStruct = 1 << 16 // bytes of a struct
	mostSize   = 1 << 20 // bytes of any type
)

// open answers the types of l, measured; an error, unless they are well.
func open(l []api.BtfType) (*types, error) {
	if len(l) > api.MaxTypes {
		return nil, errMany
	}
	if err := lookAlone(l); err != nil {
		return nil, err
	}
	order, err := partsFirst(l)
	if err != nil {
		return nil, err
	}
	t := measured(l, order)
	if err := t.lookSizes(); err != nil {
		return nil, err
	}
	if err := t.lookMembers(); err != nil {
		return nil, err
	}
	return t, nil
}

// lookAlone finds the first type that is not well by itself.
func lookAlone(l []api.BtfType) error {
	for k, one := range l {
		if !alone(one, len(l)) {
			return &fault{k + 1, errAlone}
		}
	}
	return nil
}

// lookSizes finds the first type that is too large.
func (t *types) lookSizes() error {
	for k := range t.list {
		if why := t.sizes[k+1].why; errors.Is(why, errLarge) {
			return &fault{k + 1, why}
		}
	}
	return nil
}

// lookMembers finds the first struct with a member that does not lie within it.
func (t *types) lookMembers() error {
	for k, one := range t.list {
		if one.Kind == api.BtfStruct && !t.within(one) {
			return &fault{k + 1, errOut}
		}
	}
	return nil
}

// alone answers whether one, of count types, is well by itself. What its kind does not name plays no part.
func alone(one api.BtfType, count int) bool {
	switch one.Kind {
	case api.BtfInt:
		return one.Size == 1 || one.Size == 2 || one.Size == 4 || one.Size == 8
	case api.BtfPtr:
		return one.Type == 0 || leads(one.Type, count)
	case api.BtfTypedef:
		return leads(one.Type, count)
	case api.BtfArray:
		return leads(one.Type, count) && 0 <= one.Count && one.Count <= mostCount
	case api.BtfStruct:
		return 0 <= one.Size && one.Size <= mostStruct && membersAlone(one.Members, count)
	}
	return false
}

// membersAlone answers whether the numbers of members are well.
func membersAlone(l []api.BtfMember, count int) bool {
	for _, m := range l {
		if !leads(m.Type, count) || m.Off < 0 || m.Off%8 != 0 {
			return false
		}
	}
	return true
}

// leads answers whether id leads to one of count types.
func leads(id, count int) bool { return 1 <= id && id <= count }

// within answers whether all members of a struct lie within it.
func (t *types) within(one api.BtfType) bool {
	for _, m := range one.Members {
		if m.Off/8+t.sizes[m.Type].n > one.Size {
			return false
		}
	}
	return true
}
