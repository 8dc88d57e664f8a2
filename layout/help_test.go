package layout_test

import (
	"math"
	"slices"
	"testing"

	"portcullis/api"
	"portcullis/layout"
)

// Types of each kind that tests are made of.

func integer(size int) api.BtfType { return api.BtfType{Kind: api.BtfInt, Name: "i", Size: size} }

func pointer(to int) api.BtfType { return api.BtfType{Kind: api.BtfPtr, Type: to} }

func typedef(to int) api.BtfType { return api.BtfType{Kind: api.BtfTypedef, Name: "t", Type: to} }

func array(of, count int) api.BtfType {
	return api.BtfType{Kind: api.BtfArray, Type: of, Count: count}
}

func structure(size int, members ...api.BtfMember) api.BtfType {
	return api.BtfType{Kind: api.BtfStruct, Size: size, Members: members}
}

// member is one that lies behind so many bytes.
func member(name string, of, bytes int) api.BtfMember {
	return api.BtfMember{Name: name, Type: of, Off: 8 * bytes}
}

// holding is a struct of no bytes that has members of types.
func holding(types ...int) api.BtfType {
	one := structure(0)
	for _, id := range types {
		one.Members = append(one.Members, member("", id, 0))
	}
	return one
}

// list is its arguments, with a type behind its end that no call may see.
func list(l ...api.BtfType) []api.BtfType {
	return append(slices.Clone(l), api.BtfType{Kind: 99})[:len(l)]
}

// example is the chapter's one, and some types more.
func example() []api.BtfType {
	return list(
		api.BtfType{Kind: api.BtfInt, Name: "u32", Size: 4},
		api.BtfType{Kind: api.BtfStruct, Name: "p", Size: 8, Members: []api.BtfMember{{Name: "a", Type: 1}, {Name: "b", Type: 1, Off: 32}}},
		array(2, 3),
		typedef(2),
		pointer(5),
		structure(16, member("x", 4, 8)),
		typedef(9),
		array(3, 0),
		typedef(10),
		array(6, 5),
		pointer(0),
		structure(0),
	)
}

// wantWell looks whether Check takes l.
func wantWell(t *testing.T, l []api.BtfType) {
	t.Helper()
	if at, e := layout.Check(l); at != 0 || e != api.OK {
		t.Errorf("Check(%v): %d, error %d; want 0, error 0", short(l), at, e)
	}
}

// wantWrongAt looks whether Check refuses l at the type at.
func wantWrongAt(t *testing.T, l []api.BtfType, at int) {
	t.Helper()
	if got, e := layout.Check(l); got != at || e != api.ErrType {
		t.Errorf("Check(%v): %d, error %d; want %d, error %d", short(l), got, e, at, api.ErrType)
	}
}

// wantWrong looks whether Check refuses l at the type at, and the other calls refuse l whatever else they are given.
func wantWrong(t *testing.T, l []api.BtfType, at int) {
	t.Helper()
	wantWrongAt(t, l, at)
	for _, id := range []int{math.MinInt, -1, 0, 1, at, len(l), len(l) + 1, math.MaxInt} {
		wantSize(t, l, id, 0, api.ErrType)
		wantStrip(t, l, id, 0, api.ErrType)
		wantField(t, l, id, nil, 0, 0, api.ErrType)
		wantField(t, l, id, []string{"a"}, 0, 0, api.ErrType)
		wantFits(t, l, id, 0, 0, 0, api.ErrType)
		wantFits(t, l, 0, id, 0, 0, api.ErrType)
	}
}

// wantSize looks at what Size tells.
func wantSize(t *testing.T, l []api.BtfType, id, want int, err api.Errno) {
	t.Helper()
	if n, e := layout.Size(l, id); n != want || e != err {
		t.Errorf("Size(%v, %d): %d, error %d; want %d, error %d", short(l), id, n, e, want, err)
	}
}

// wantStrip looks at what Strip tells.
func wantStrip(t *testing.T, l []api.BtfType, id, want int, err api.Errno) {
	t.Helper()
	if to, e := layout.Strip(l, id); to != want || e != err {
		t.Errorf("Strip(%v, %d): %d, error %d; want %d, error %d", short(l), id, to, e, want, err)
	}
}

// wantField looks at what Field tells.
func wantField(t *testing.T, l []api.BtfType, id int, path []string, off, to int, err api.Errno) {
	t.Helper()
	if gotOff, gotTo, e := layout.Field(l, id, path); gotOff != off || gotTo != to || e != err {
		t.Errorf("Field(%v, %d, %q): %d, %d, error %d; want %d, %d, error %d", short(l), id, path, gotOff, gotTo, e, off, to, err)
	}
}

// wantFits looks at what Fits tells of a map's sizes; the map's other numbers play no part.
func wantFits(t *testing.T, l []api.BtfType, key, value, keyBytes, valueBytes int, want api.Errno) {
	t.Helper()
	for _, m := range []api.MapSpec{{Key: keyBytes, Value: valueBytes}, {Kind: api.MapHash, Key: keyBytes, Value: valueBytes, Max: 16}, {Kind: -7, Key: keyBytes, Value: valueBytes, Max: -1}} {
		if e := layout.Fits(l, key, value, m); e != want {
			t.Errorf("Fits(%v, %d, %d, %v): error %d; want %d", short(l), key, value, m, e, want)
		}
	}
}

// copied answers types that share nothing with l.
func copied(l []api.BtfType) []api.BtfType {
	l = slices.Clone(l)
	for k := range l {
		l[k].Members = slices.Clone(l[k].Members)
	}
	return l
}

// same answers whether a and b are the same types.
func same(a, b []api.BtfType) bool {
	return slices.EqualFunc(a, b, func(x, y api.BtfType) bool {
		return x.Kind == y.Kind && x.Name == y.Name && x.Size == y.Size && x.Type == y.Type && x.Count == y.Count &&
			slices.Equal(x.Members, y.Members)
	})
}

// short answers the beginning of l, for what tests tell.
func short(l []api.BtfType) []api.BtfType {
	l = copied(l[:min(len(l), 12)])
	for k := range l {
		l[k].Members = l[k].Members[:min(len(l[k].Members), 6)]
	}
	return l
}

// draws answers a row of numbers that hangs on nothing.
func draws() func() uint64 {
	state := uint64(1)
	return func() uint64 {
		state += 0x9e3779b97f4a7c15
		n := (state ^ state>>30) * 0xbf58476d1ce4e5b9
		n = (n ^ n>>27) * 0x94d049bb133111eb
		return n ^ n>>31
	}
}

// among draws one of several.
func among[T any](draw func() uint64, l ...T) T { return l[draw()%uint64(len(l))] }
