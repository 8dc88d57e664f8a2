package btf_test

import (
	"encoding/binary"
	"slices"
	"testing"

	"portcullis/api"
	"portcullis/btf"
)

// top is the greatest number that a Type, a Count, an Off or a Size may be.
const top = 1<<31 - 1

// numbers answers the bytes of numbers, little end first.
func numbers(l ...uint32) string {
	var b []byte
	for _, n := range l {
		b = binary.LittleEndian.AppendUint32(b, n)
	}
	return string(b)
}

// headed answers a blob's head that tells where types and names lie, and the bytes behind it.
func headed(typesAt, typesLen, namesAt, namesLen uint32, rest string) string {
	return "\x9f\xeb\x01\x00" + numbers(24, typesAt, typesLen, namesAt, namesLen) + rest
}

// blob answers the blob that has the types at 0, and the names behind them.
func blob(types, names string) string {
	n := uint32(len(types))
	return headed(0, n, n, uint32(len(names)), types+names)
}

// build is Build of what must be taken.
func build(t *testing.T, l []api.BtfType) string {
	t.Helper()
	s, e := btf.Build(l)
	if e != api.OK {
		t.Fatalf("Build(%v): error %d", short(l), e)
	}
	return s
}

// wantBuild looks at the blob that Build tells of l, and at what is read of it.
func wantBuild(t *testing.T, l []api.BtfType, want string) {
	t.Helper()
	if got := build(t, l); got != want {
		t.Errorf("Build(%v):\n%x; want\n%x", short(l), start(got), start(want))
	}
	wantParse(t, want, l)
}

// wantNoBuild looks whether Build refuses l.
func wantNoBuild(t *testing.T, l []api.BtfType) {
	t.Helper()
	if s, e := btf.Build(l); s != "" || e != api.ErrBtf {
		t.Errorf("Build(%v): %d bytes, error %d; want none, error %d", short(l), len(s), e, api.ErrBtf)
	}
}

// wantParse looks at the types that Parse tells of s.
func wantParse(t *testing.T, s string, want []api.BtfType) {
	t.Helper()
	if got, e := btf.Parse(s); e != api.OK || !same(got, want) {
		t.Errorf("Parse(%x): %v, error %d; want %v", start(s), short(got), e, short(want))
	}
}

// wantNoParse looks whether Parse refuses s.
func wantNoParse(t *testing.T, s string) {
	t.Helper()
	if l, e := btf.Parse(s); len(l) != 0 || e != api.ErrBtf {
		t.Errorf("Parse(%x): %v, error %d; want no types, error %d", start(s), short(l), e, api.ErrBtf)
	}
}

// same answers whether a and b are the same types.
func same(a, b []api.BtfType) bool {
	return slices.EqualFunc(a, b, func(x, y api.BtfType) bool {
		return x.Kind == y.Kind && x.Name == y.Name && x.Size == y.Size && x.Type == y.Type && x.Count == y.Count &&
			slices.Equal(x.Members, y.Members)
	})
}

// copied answers types that share nothing with l.
func copied(l []api.BtfType) []api.BtfType {
	l = slices.Clone(l)
	for k := range l {
		l[k].Members = slices.Clone(l[k].Members)
	}
	return l
}

// short answers the beginning of l, for what tests tell.
func short(l []api.BtfType) []api.BtfType {
	l = copied(l[:min(len(l), 10)])
	for k := range l {
		l[k].Members = l[k].Members[:min(len(l[k].Members), 10)]
	}
	return l
}

// start answers the beginning of s, for what tests tell.
func start(s string) string { return s[:min(len(s), 200)] }

// sample answers a type of each kind that may be.
func sample() []api.BtfType {
	return []api.BtfType{
		{Kind: api.BtfInt, Name: "u32", Size: 4},
		{Kind: api.BtfPtr, Type: 2},
		{Kind: api.BtfTypedef, Name: "t", Type: 3},
		{Kind: api.BtfArray, Type: 4, Count: 5},
		{Kind: api.BtfStruct, Name: "s", Size: 6, Members: []api.BtfMember{{Name: "m", Type: 7, Off: 8}, {Type: 9, Off: 10}}},
	}
}

// draws answers a row of numbers that hangs on nothing.
func draws() func() uint64 {
	state := uint64(1)
	return func() uint64 {
		state += 0x9e3779b97f4a7c15
		n := (state ^ state>>30) * 0xbf58476d1ce4e5b9
		n = (n ^ n>>27) * 0x94d049bb133111eb
		return n ^ n>>31
	}
}
