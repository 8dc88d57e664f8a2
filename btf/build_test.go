package btf_test

import (
	"math"
	"slices"
	"strconv"
	"strings"
	"testing"

	"portcullis/api"
	"portcullis/btf"
)

// 6.1: the blob of no types has the empty name alone.
func TestBuildNothing(t *testing.T) {
	want := "\x9f\xeb\x01\x00\x18\x00\x00\x00" + "\x00\x00\x00\x00\x00\x00\x00\x00" + "\x00\x00\x00\x00\x01\x00\x00\x00" + "\x00"
	wantBuild(t, nil, want)
	wantBuild(t, []api.BtfType{}, want)
}

// 6.1: the chapter's first example, byte by byte.
func TestBuildExample(t *testing.T) {
	wantBuild(t, []api.BtfType{{Kind: api.BtfInt, Name: "u32", Size: 4}},
		"\x9f\xeb\x01\x00"+"\x18\x00\x00\x00"+"\x00\x00\x00\x00"+"\x10\x00\x00\x00"+"\x10\x00\x00\x00"+"\x05\x00\x00\x00"+
			"\x01\x00\x00\x00"+"\x00\x00\x00\x01"+"\x04\x00\x00\x00"+"\x20\x00\x00\x00"+"\x00u32\x00")
}

// 6.1: one type of each kind, byte by byte.
func TestBuildOne(t *testing.T) {
	for _, c := range []struct {
		l            api.BtfType
		types, names string
	}{
		{api.BtfType{Kind: api.BtfInt, Name: "a", Size: 1}, "\x01\x00\x00\x00\x00\x00\x00\x01\x01\x00\x00\x00\x08\x00\x00\x00", "\x00a\x00"},
		{api.BtfType{Kind: api.BtfInt, Name: "a", Size: 2}, "\x01\x00\x00\x00\x00\x00\x00\x01\x02\x00\x00\x00\x10\x00\x00\x00", "\x00a\x00"},
		{api.BtfType{Kind: api.BtfInt, Name: "a", Size: 4}, "\x01\x00\x00\x00\x00\x00\x00\x01\x04\x00\x00\x00\x20\x00\x00\x00", "\x00a\x00"},
		{api.BtfType{Kind: api.BtfInt, Name: "_0", Size: 8}, "\x01\x00\x00\x00\x00\x00\x00\x01\x08\x00\x00\x00\x40\x00\x00\x00", "\x00_0\x00"},
		{api.BtfType{Kind: api.BtfPtr}, "\x00\x00\x00\x00\x00\x00\x00\x02\x00\x00\x00\x00", "\x00"},
		{api.BtfType{Kind: api.BtfPtr, Type: 0x12345678}, "\x00\x00\x00\x00\x00\x00\x00\x02\x78\x56\x34\x12", "\x00"},
		{api.BtfType{Kind: api.BtfTypedef, Name: "Td", Type: 258}, "\x01\x00\x00\x00\x00\x00\x00\x08\x02\x01\x00\x00", "\x00Td\x00"},
		{api.BtfType{Kind: api.BtfTypedef, Name: "Td"}, "\x01\x00\x00\x00\x00\x00\x00\x08\x00\x00\x00\x00", "\x00Td\x00"},
		{api.BtfType{Kind: api.BtfArray}, "\x00\x00\x00\x00\x00\x00\x00\x03" + "\x00\x00\x00\x00\x00\x00\x00\x00\x00\x00\x00\x00\x00\x00\x00\x00", "\x00"},
		{api.BtfType{Kind: api.BtfArray, Type: 2, Count: 3}, "\x00\x00\x00\x00\x00\x00\x00\x03" + "\x00\x00\x00\x00\x02\x00\x00\x00\x00\x00\x00\x00\x03\x00\x00\x00", "\x00"},
		{api.BtfType{Kind: api.BtfStruct}, "\x00\x00\x00\x00\x00\x00\x00\x04\x00\x00\x00\x00", "\x00"},
		{api.BtfType{Kind: api.BtfStruct, Name: "s", Size: 3}, "\x01\x00\x00\x00\x00\x00\x00\x04\x03\x00\x00\x00", "\x00s\x00"},
		{
			api.BtfType{Kind: api.BtfStruct, Name: "pt", Size: 16, Members: []api.BtfMember{{Name: "x", Type: 1}, {Name: "yy", Type: 2, Off: 64}}},
			"\x01\x00\x00\x00\x02\x00\x00\x04\x10\x00\x00\x00" +
				"\x04\x00\x00\x00\x01\x00\x00\x00\x00\x00\x00\x00" + "\x06\x00\x00\x00\x02\x00\x00\x00\x40\x00\x00\x00",
			"\x00pt\x00x\x00yy\x00",
		},
		{
			api.BtfType{Kind: api.BtfStruct, Size: 5, Members: []api.BtfMember{{Type: 7, Off: 9}}},
			"\x00\x00\x00\x00\x01\x00\x00\x04\x05\x00\x00\x00" + "\x00\x00\x00\x00\x07\x00\x00\x00\x09\x00\x00\x00",
			"\x00",
		},
	} {
		wantBuild(t, []api.BtfType{c.l}, blob(c.types, c.names))
	}
}

// 6.1: several types of each kind stand one behind the other.
func TestBuildSeveral(t *testing.T) {
	l := []api.BtfType{
		{Kind: api.BtfStruct, Name: "s", Size: 6, Members: []api.BtfMember{{Name: "m", Type: 7, Off: 8}}},
		{Kind: api.BtfInt, Name: "u8", Size: 1},
		{Kind: api.BtfInt, Name: "u64", Size: 8},
		{Kind: api.BtfArray, Type: 2, Count: 10},
		{Kind: api.BtfPtr, Type: 1},
		{Kind: api.BtfPtr},
		{Kind: api.BtfTypedef, Name: "d", Type: 6},
		{Kind: api.BtfTypedef, Name: "e", Type: 7},
		{Kind: api.BtfStruct, Size: 2},
		{Kind: api.BtfArray, Type: 9},
	}
	types := numbers(1, 4<<24+1, 6, 3, 7, 8) +
		numbers(5, 1<<24, 1, 8) + numbers(8, 1<<24, 8, 64) +
		numbers(0, 3<<24, 0, 2, 0, 10) +
		numbers(0, 2<<24, 1) + numbers(0, 2<<24, 0) +
		numbers(12, 8<<24, 6) + numbers(14, 8<<24, 7) +
		numbers(0, 4<<24, 2) +
		numbers(0, 3<<24, 0, 9, 0, 0)
	wantBuild(t, l, blob(types, "\x00s\x00m\x00u8\x00u64\x00d\x00e\x00"))
}

// 6.1: a name stands once, whoever have it: two types, a type and its member, two members, a type and another's member.
func TestBuildNamesOnce(t *testing.T) {
	wantBuild(t, []api.BtfType{{Kind: api.BtfInt, Name: "n", Size: 1}, {Kind: api.BtfTypedef, Name: "n", Type: 1}},
		blob(numbers(1, 1<<24, 1, 8, 1, 8<<24, 1), "\x00n\x00"))
	wantBuild(t, []api.BtfType{{Kind: api.BtfStruct, Name: "n", Members: []api.BtfMember{{Name: "n", Type: 1}}}},
		blob(numbers(1, 4<<24+1, 0, 1, 1, 0), "\x00n\x00"))
	wantBuild(t, []api.BtfType{{Kind: api.BtfStruct, Name: "s", Members: []api.BtfMember{{Name: "n"}, {Name: "m"}, {Name: "n", Off: 1}}}},
		blob(numbers(1, 4<<24+3, 0, 3, 0, 0, 5, 0, 0, 3, 0, 1), "\x00s\x00n\x00m\x00"))
	wantBuild(t, []api.BtfType{
		{Kind: api.BtfStruct, Members: []api.BtfMember{{Name: "n"}}},
		{Kind: api.BtfInt, Name: "k", Size: 1},
		{Kind: api.BtfTypedef, Name: "n"},
		{Kind: api.BtfStruct, Name: "k", Members: []api.BtfMember{{}, {Name: "k"}, {Name: "n"}}},
	}, blob(numbers(0, 4<<24+1, 0, 1, 0, 0, 3, 1<<24, 1, 8, 1, 8<<24, 0, 3, 4<<24+3, 0, 0, 0, 0, 3, 0, 0, 1, 0, 0), "\x00n\x00k\x00"))
}

// 6.1: a name that another one begins or ends with, or that differs in a letter's height alone, stands by itself.
func TestBuildNamesAlike(t *testing.T) {
	wantBuild(t, []api.BtfType{
		{Kind: api.BtfTypedef, Name: "abc"}, {Kind: api.BtfTypedef, Name: "bc"}, {Kind: api.BtfTypedef, Name: "ab"}, {Kind: api.BtfTypedef, Name: "Abc"},
	}, blob(numbers(1, 8<<24, 0, 5, 8<<24, 0, 8, 8<<24, 0, 11, 8<<24, 0), "\x00abc\x00bc\x00ab\x00Abc\x00"))
}

// 6.1: names stand as types have them, a type's own ahead of its members', and those ahead of the next type's; not by their bytes.
func TestBuildNamesOrder(t *testing.T) {
	s := build(t, []api.BtfType{
		{Kind: api.BtfStruct, Name: "z", Members: []api.BtfMember{{Name: "y"}, {Name: "x"}, {Name: "w"}}},
		{Kind: api.BtfPtr},
		{Kind: api.BtfInt, Name: "v", Size: 2},
		{Kind: api.BtfStruct, Members: []api.BtfMember{{Name: "u"}, {Name: "t"}}},
		{Kind: api.BtfTypedef, Name: "s"},
		{Kind: api.BtfStruct, Name: "r", Members: []api.BtfMember{{Name: "z"}, {Name: "a"}}},
	})
	if want := "\x00z\x00y\x00x\x00w\x00v\x00u\x00t\x00s\x00r\x00a\x00"; !strings.HasSuffix(s, want) || len(s) != 24+12+36+12+16+12+24+12+12+24+len(want) {
		t.Errorf("names of %q; want %q", s, want)
	}
}

// 6.1: many names stand in their order, and each time the same (R5).
func TestBuildManyNames(t *testing.T) {
	var l []api.BtfType
	names := "\x00"
	for k := range api.MaxTypes {
		n := "n" + strconv.Itoa(k*7919%10007)
		l = append(l, api.BtfType{Kind: api.BtfTypedef, Name: n, Type: k})
		names += n + "\x00"
	}
	s := build(t, l)
	if !strings.HasSuffix(s, names) || len(s) != 24+12*len(l)+len(names) {
		t.Error("the names stand in another order")
	}
	wantParse(t, s, l)
	for range 4 {
		if build(t, l) != s {
			t.Error("Build tells another blob of the same types")
		}
	}
}

// 6.1: an int has Size 1, 2, 4 or 8.
func TestBuildIntSizes(t *testing.T) {
	for _, n := range []int{math.MinInt, -1 << 32, -8, -4, -1, 0, 3, 5, 6, 7, 9, 10, 12, 15, 16, 24, 32, 64, 128, 255, 256, 257, 1<<29 + 1, 1<<31 - 1, 1 << 31, 1<<32 + 4, 1<<61 + 4, math.MaxInt} {
		wantNoBuild(t, []api.BtfType{{Kind: api.BtfInt, Name: "a", Size: n}})
	}
	for _, n := range []int{1, 2, 4, 8} {
		wantBuild(t, []api.BtfType{{Kind: api.BtfInt, Name: "a", Size: n}}, blob(numbers(1, 1<<24, uint32(n), uint32(8*n)), "\x00a\x00"))
	}
}

// field is one of a type's numbers.
type field struct {
	name string
	of   func(*api.BtfType) *int
}

// fields answers the numbers of a type beside its Kind.
func fields() []field {
	return []field{
		{"Size", func(t *api.BtfType) *int { return &t.Size }},
		{"Type", func(t *api.BtfType) *int { return &t.Type }},
		{"Count", func(t *api.BtfType) *int { return &t.Count }},
	}
}

// namedFields tells of a kind which numbers it names.
func namedFields(kind int) []string {
	switch kind {
	case api.BtfInt, api.BtfStruct:
		return []string{"Size"}
	case api.BtfArray:
		return []string{"Type", "Count"}
	}
	return []string{"Type"}
}

// 6.1: what a kind doesn't name is 0 and empty, in whichever type of a list.
func TestBuildUnnamedParts(t *testing.T) {
	for at, one := range sample() {
		refused := func(change func(*api.BtfType)) {
			t.Helper()
			wrong := copied([]api.BtfType{one})
			change(&wrong[0])
			wantNoBuild(t, wrong)
			l := sample()
			l[at] = wrong[0]
			wantNoBuild(t, l)
		}
		for _, f := range fields() {
			if slices.Contains(namedFields(one.Kind), f.name) {
				continue
			}
			for _, n := range []int{1, 4, 8, 32, -1, top, top + 1, 1 << 32, math.MinInt, math.MaxInt} {
				refused(func(t *api.BtfType) { *f.of(t) = n })
			}
		}
		if one.Kind != api.BtfStruct {
			refused(func(t *api.BtfType) { t.Members = []api.BtfMember{{}} })
			refused(func(t *api.BtfType) { t.Members = []api.BtfMember{{Name: "m", Type: 1, Off: 8}} })
			refused(func(t *api.BtfType) { t.Members = make([]api.BtfMember, 1<<16) })
		}
	}
}

// 6.1: members that are none may be a list of length 0 (R3).
func TestBuildEmptyMembers(t *testing.T) {
	l := sample()
	for k := range l[:4] {
		l[k].Members = []api.BtfMember{}
	}
	if got, want := build(t, l), build(t, sample()); got != want {
		t.Errorf("%x; want %x", got, want)
	}
}

// 6.1: the numbers of each kind at 0, 1, 2^31 - 1, and past these edges.
func TestBuildNumberEdges(t *testing.T) {
	wrong := []int{-1, -2, math.MinInt32, -1 << 32, 1 - 1<<32, math.MinInt, top + 1, 1<<32 - 1, 1 << 32, 1<<32 + 1, 1 << 33, math.MaxInt}
	for at, one := range sample() {
		for _, f := range fields() {
			if one.Kind == api.BtfInt || !slices.Contains(namedFields(one.Kind), f.name) {
				continue
			}
			for _, n := range []int{0, 1, 255, 256, 65535, 65536, 1 << 24, 1 << 30, top - 1, top} {
				l := sample()
				*f.of(&l[at]) = n
				wantParse(t, build(t, l), l)
			}
			for _, n := range wrong {
				l := sample()
				*f.of(&l[at]) = n
				wantNoBuild(t, l)
				wantNoBuild(t, l[at:at+1])
			}
		}
	}
}

// 6.1: each number of each kind at 2^31 - 1, byte by byte.
func TestBuildGreatestNumbers(t *testing.T) {
	wantBuild(t, []api.BtfType{{Kind: api.BtfPtr, Type: top}}, blob(numbers(0, 2<<24, 0x7fffffff), "\x00"))
	wantBuild(t, []api.BtfType{{Kind: api.BtfTypedef, Name: "a", Type: top}}, blob(numbers(1, 8<<24, 0x7fffffff), "\x00a\x00"))
	wantBuild(t, []api.BtfType{{Kind: api.BtfArray, Type: top, Count: top}}, blob(numbers(0, 3<<24, 0, 0x7fffffff, 0, 0x7fffffff), "\x00"))
	wantBuild(t, []api.BtfType{{Kind: api.BtfStruct, Size: top}}, blob(numbers(0, 4<<24, 0x7fffffff), "\x00"))
	wantBuild(t, []api.BtfType{{Kind: api.BtfStruct, Size: top, Members: []api.BtfMember{{Type: top, Off: top}}}},
		blob(numbers(0, 4<<24+1, 0x7fffffff, 0, 0x7fffffff, 0x7fffffff), "\x00"))
}

// 6.1: a member's numbers at their edges and past them, in the first member, the middle one and the last.
func TestBuildMemberEdges(t *testing.T) {
	for at := range 3 {
		l := []api.BtfType{{Kind: api.BtfStruct, Name: "s", Size: 6, Members: []api.BtfMember{{Name: "a", Type: 1, Off: 2}, {Name: "b", Type: 3, Off: 4}, {Name: "c", Type: 5, Off: 6}}}}
		m := &l[0].Members[at]
		for _, p := range []*int{&m.Type, &m.Off} {
			was := *p
			for _, *p = range []int{0, 1, 7, 65536, top - 1, top} {
				wantParse(t, build(t, l), l)
			}
			for _, *p = range []int{-1, -8, math.MinInt32, 1 - 1<<32, math.MinInt, top + 1, 1<<32 - 1, 1 << 32, 1<<32 + 1, math.MaxInt} {
				wantNoBuild(t, l)
			}
			*p = was
		}
	}
}

// members answers a struct of n members.
func members(n int) api.BtfType {
	s := api.BtfType{Kind: api.BtfStruct, Name: "s", Size: n}
	for k := range n {
		s.Members = append(s.Members, api.BtfMember{Name: "m" + strconv.Itoa(k%100), Type: k, Off: 8 * k})
	}
	return s
}

// 6.1: a struct of no member, of one, of 1024, and of more.
func TestBuildMemberCounts(t *testing.T) {
	for _, n := range []int{0, 1, 2, 255, 256, 257, 1023, 1024} {
		l := []api.BtfType{members(n)}
		s := build(t, l)
		if !strings.HasPrefix(s[24:], numbers(1, 4<<24+uint32(n), uint32(n))) {
			t.Errorf("%d members: %x", n, s[24:36])
		}
		wantParse(t, s, l)
		l = []api.BtfType{{Kind: api.BtfPtr}, members(n), members(n), {Kind: api.BtfPtr, Type: 1}}
		wantParse(t, build(t, l), l)
	}
	for _, n := range []int{1025, 1026, 2048, 65535, 65536, 65537, 1 << 20, 1 << 24, 1<<24 + 1} {
		wrong := api.BtfType{Kind: api.BtfStruct, Members: make([]api.BtfMember, n)}
		wantNoBuild(t, []api.BtfType{wrong})
		wantNoBuild(t, []api.BtfType{{Kind: api.BtfPtr}, wrong})
	}
}

// 6.1: 1024 types, and more.
func TestBuildTypeCounts(t *testing.T) {
	var l []api.BtfType
	for len(l) < 2048 {
		l = append(l, sample()...)
	}
	for _, n := range []int{1, 2, 255, 256, 1022, 1023, 1024} {
		wantParse(t, build(t, l[:n]), l[:n])
	}
	for _, n := range []int{1025, 1026, 2047, 2048} {
		wantNoBuild(t, l[:n])
	}
	pointers := make([]api.BtfType, 1025)
	for k := range pointers {
		pointers[k] = api.BtfType{Kind: api.BtfPtr, Type: k}
	}
	wantParse(t, build(t, pointers[:1024]), pointers[:1024])
	wantNoBuild(t, pointers)
}

// 6.1: 1024 structs of 1024 members each.
func TestBuildManyOfMany(t *testing.T) {
	l := make([]api.BtfType, 1024)
	for k := range l {
		l[k] = members(1024)
	}
	wantParse(t, build(t, l), l)
	l[1023] = members(1025)
	wantNoBuild(t, l)
}

// 6.1: a kind that is none of the five is refused, whatever else the type has.
func TestBuildKinds(t *testing.T) {
	for _, kind := range []int{math.MinInt, -1 << 24, -255, -8, -1, 0, 5, 6, 7, 9, 10, 12, 16, 19, 255, 256, 257, 258, 259, 260, 264, 1 << 24, 1<<32 + 1, 1<<32 + 2, 1<<40 + 2, math.MaxInt} {
		wantNoBuild(t, []api.BtfType{{Kind: kind}})
		wantNoBuild(t, []api.BtfType{{Kind: kind, Name: "x"}})
		for at, one := range sample() {
			one.Kind = kind
			wantNoBuild(t, []api.BtfType{one})
			l := sample()
			l[at].Kind = kind
			wantNoBuild(t, l)
		}
	}
}

// badNames answers texts that are no names, or that couldn't be told from others within a blob.
func badNames() []string {
	return []string{
		"0", "9", "1a", "0_", " ", "a b", "a-", "-a", "a.b", ".", "\x00", "a\x00", "\x00a", "a\x00b", "\x00\x00", "a\x00a", "é", "a\xff", "\x80", "@", "[", "`", "{", "/", ":",
		strings.Repeat("a", 129), strings.Repeat("a", 130), strings.Repeat("a", 128) + "\x00", strings.Repeat("a", 1<<16),
	}
}

// 6.1: names of types and of members that are none.
func TestBuildBadNames(t *testing.T) {
	for _, n := range badNames() {
		for at := range sample() {
			l := sample()
			l[at].Name = n
			wantNoBuild(t, l)
			wantNoBuild(t, l[at:at+1])
		}
		for at := range 2 {
			l := sample()
			l[4].Members[at].Name = n
			wantNoBuild(t, l)
			wantNoBuild(t, l[4:])
		}
	}
}

// 6.1: names that may be: of 1 byte, of 128, with each byte that may be.
func TestBuildGoodNames(t *testing.T) {
	good := []string{"a", "_", "Z", nameBytes, strings.Repeat("a", 127), strings.Repeat("b", 128), "_" + strings.Repeat("9", 127)}
	for _, n := range good {
		for _, at := range []int{0, 2, 4} {
			l := sample()
			l[at].Name = n
			wantParse(t, build(t, l), l)
		}
		l := sample()
		l[4].Members[1].Name = n
		wantParse(t, build(t, l), l)
	}
	wantBuild(t, []api.BtfType{{Kind: api.BtfTypedef, Name: strings.Repeat("a", 128)}}, blob(numbers(1, 8<<24, 0), "\x00"+strings.Repeat("a", 128)+"\x00"))
}

// 6.1: ints and typedefs have a name, pointers and arrays none, structs and members may.
func TestBuildNamedOrNot(t *testing.T) {
	for _, c := range []struct {
		one         api.BtfType
		named, bare bool
	}{
		{api.BtfType{Kind: api.BtfInt, Size: 4}, true, false},
		{api.BtfType{Kind: api.BtfTypedef, Type: 1}, true, false},
		{api.BtfType{Kind: api.BtfPtr, Type: 1}, false, true},
		{api.BtfType{Kind: api.BtfArray, Type: 1, Count: 2}, false, true},
		{api.BtfType{Kind: api.BtfStruct, Size: 4}, true, true},
		{api.BtfType{Kind: api.BtfStruct, Members: []api.BtfMember{{}}}, true, true},
		{api.BtfType{Kind: api.BtfStruct, Members: []api.BtfMember{{Name: "m"}}}, true, true},
	} {
		for name, may := range map[string]bool{"": c.bare, "x": c.named, "_": c.named} {
			one := c.one
			one.Name = name
			l := []api.BtfType{one}
			if may {
				wantParse(t, build(t, l), l)
			} else {
				wantNoBuild(t, l)
			}
		}
	}
}

// 6.1: one wrong type is found wherever it stands.
func TestBuildWrongAnywhere(t *testing.T) {
	for at := range 6 {
		l := slices.Insert(sample(), at, api.BtfType{})
		wantNoBuild(t, l)
	}
	l := make([]api.BtfType, 1024)
	for k := range l {
		l[k].Kind = api.BtfPtr
	}
	l[1023].Count = 1
	wantNoBuild(t, l)
}

// R4: Build changes no type and no member, not those behind a list's end either, and what it told stays.
func TestBuildKeepsNothing(t *testing.T) {
	all := append(sample(), api.BtfType{Kind: 99, Name: "9", Members: []api.BtfMember{{Name: "9"}}})
	all[4].Members = append(all[4].Members, api.BtfMember{Name: "9", Type: -1})
	before := copied(all)
	l := slices.Clone(all[:5])
	l[4].Members = l[4].Members[:2]
	s := build(t, l)
	wantNoBuild(t, all)
	if !same(all, before) {
		t.Errorf("Build made %v of %v", all, before)
	}
	told := strings.Clone(s)
	all[4].Members[0] = api.BtfMember{Name: "q", Type: 77}
	l[0] = api.BtfType{Kind: api.BtfPtr}
	if s != told {
		t.Error("a blob changes with the types")
	}
	if one, e := btf.Build(l); e != api.OK || one == s {
		t.Errorf("Build tells what it told ahead: %q, error %d", one, e)
	}
}
