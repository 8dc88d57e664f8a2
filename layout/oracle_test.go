package layout_test

import (
	"math/big"
	"slices"

	"portcullis/api"
)

// model is what the chapter's words say of types, asked one by one; sizes are numbers without an end.
type model []api.BtfType

// big20 is what sizes are held against.
var big20 = big.NewInt(1 << 20)

// check is Check.
func (l model) check() (int, api.Errno) {
	if len(l) > 1024 {
		return 0, api.ErrType
	}
	for _, wrong := range []func(id int) bool{
		func(id int) bool { return !l.alone(id) },
		func(id int) bool { return slices.Contains(l.led(id), id) },
		func(id int) bool { return l.size(id).Cmp(big20) > 0 },
		func(id int) bool { return !l.within(id) },
	} {
		for id := 1; id <= len(l); id++ {
			if wrong(id) {
				return id, api.ErrType
			}
		}
	}
	return 0, api.OK
}

// alone answers whether the type id is well by itself.
func (l model) alone(id int) bool {
	one := l[id-1]
	is := func(n, from, to int) bool { return from <= n && n <= to }
	switch one.Kind {
	case 1:
		return slices.Contains([]int{1, 2, 4, 8}, one.Size)
	case 2:
		return is(one.Type, 0, len(l))
	case 3:
		return is(one.Type, 1, len(l)) && is(one.Count, 0, 65536)
	case 4:
		wrong := func(m api.BtfMember) bool { return !is(m.Type, 1, len(l)) || m.Off < 0 || m.Off&7 != 0 }
		return is(one.Size, 0, 65536) && !slices.ContainsFunc(one.Members, wrong)
	case 8:
		return is(one.Type, 1, len(l))
	}
	return false
}

// led answers all types that the type id holds, over however many.
func (l model) led(id int) []int {
	var out []int
	seen := make([]bool, len(l)+1)
	todo := []int{id}
	for len(todo) > 0 {
		one := l[todo[0]-1]
		todo = todo[1:]
		var next []int
		switch one.Kind {
		case api.BtfTypedef, api.BtfArray:
			next = []int{one.Type}
		case api.BtfStruct:
			for _, m := range one.Members {
				next = append(next, m.Type)
			}
		}
		for _, n := range next {
			if !seen[n] {
				seen[n] = true
				out = append(out, n)
				todo = append(todo, n)
			}
		}
	}
	return out
}

// size answers the type's size, of types that do not hold themselves.
func (l model) size(id int) *big.Int {
	one := l[id-1]
	switch one.Kind {
	case api.BtfPtr:
		return big.NewInt(8)
	case api.BtfTypedef:
		return l.size(one.Type)
	case api.BtfArray:
		return new(big.Int).Mul(big.NewInt(int64(one.Count)), l.size(one.Type))
	}
	return big.NewInt(int64(one.Size))
}

// within answers whether each member lies within its struct.
func (l model) within(id int) bool {
	one := l[id-1]
	if one.Kind != api.BtfStruct {
		return true
	}
	for _, m := range one.Members {
		end := new(big.Int).Add(big.NewInt(int64(m.Off/8)), l.size(m.Type))
		if end.Cmp(big.NewInt(int64(one.Size))) > 0 {
			return false
		}
	}
	return true
}

// strip is Strip of types that are well.
func (l model) strip(id int) int {
	if id == 0 || l[id-1].Kind != api.BtfTypedef {
		return id
	}
	return l.strip(l[id-1].Type)
}

// field is Field of types that are well: name by name, from the path's end on back.
func (l model) field(id int, path []string) (int, int, bool) {
	if len(path) == 0 {
		return 0, id, true
	}
	to := l.strip(id)
	if to == 0 || l[to-1].Kind != api.BtfStruct || path[0] == "" {
		return 0, 0, false
	}
	members := l[to-1].Members
	k := slices.IndexFunc(members, func(m api.BtfMember) bool { return m.Name == path[0] })
	if k < 0 {
		return 0, 0, false
	}
	off, end, ok := l.field(members[k].Type, path[1:])
	if !ok {
		return 0, 0, false
	}
	return members[k].Off/8 + off, end, true
}
