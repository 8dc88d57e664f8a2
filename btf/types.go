package btf

import (
	"math"

	"portcullis/api"
)

// The limits that are the chapter's own.
const (
	mostName    = 128 // bytes of a name
	mostMembers = 1024
	mostNumber  = math.MaxInt32 // of a Type, a Count, an Off or a Size
)

// may answers whether t is a type that a blob may have: Build lays no other one, and Parse tells no other one.
func may(t api.BtfType) bool {
	if !Name(t.Name) || !fits(t.Size) || !fits(t.Type) || !fits(t.Count) || !members(t.Members) {
		return false
	}
	named, parted := t.Name != "", len(t.Members) > 0
	switch t.Kind {
	case api.BtfInt:
		return named && sized(t.Size) && t.Type == 0 && t.Count == 0 && !parted
	case api.BtfPtr:
		return !named && t.Size == 0 && t.Count == 0 && !parted
	case api.BtfTypedef:
		return named && t.Size == 0 && t.Count == 0 && !parted
	case api.BtfArray:
		return !named && t.Size == 0 && !parted
	case api.BtfStruct:
		return t.Type == 0 && t.Count == 0
	}
	return false
}

// members answers whether a struct may have the members l.
func members(l []api.BtfMember) bool {
	if len(l) > mostMembers {
		return false
	}
	for _, m := range l {
		if !Name(m.Name) || !fits(m.Type) || !fits(m.Off) {
			return false
		}
	}
	return true
}

// fits answers whether a type's number may be n.
func fits(n int) bool { return 0 <= n && n <= mostNumber }

// sized answers whether an int's Size may be n.
func sized(n int) bool { return n == 1 || n == 2 || n == 4 || n == 8 }
