package btf_test

import (
	"strings"
	"testing"

	"portcullis/api"
	"portcullis/btf"
)

// one is the chapter's first example: its types, its names, and what they tell.
var (
	oneTypes = numbers(1, 1<<24, 4, 32)
	oneNames = "\x00u32\x00"
	one      = []api.BtfType{{Kind: api.BtfInt, Name: "u32", Size: 4}}
)

// 6.1: no bytes, and each head that lacks bytes.
func TestParseShort(t *testing.T) {
	s := blob(oneTypes, oneNames)
	wantParse(t, s, one)
	for n := range len(s) {
		wantNoParse(t, s[:n])
	}
	s = blob("", "\x00")
	wantParse(t, s, nil)
	for n := range len(s) {
		wantNoParse(t, s[:n])
		wantNoParse(t, s[n+1:])
	}
}

// 6.1: each wrong byte of the head's first eight.
func TestParseWrongHead(t *testing.T) {
	s := blob(oneTypes, oneNames)
	for at := range 8 {
		for n := range 256 {
			if c := byte(n); c != s[at] {
				wantNoParse(t, s[:at]+string([]byte{c})+s[at+1:])
			}
		}
	}
	wantNoParse(t, "\xeb\x9f\x01\x00"+s[4:])
	wantNoParse(t, "\xeb\x9f\x01\x00\x00\x00\x00\x18"+s[8:])
	wantNoParse(t, s[:4]+"\x00\x00\x00\x18"+s[8:])
	wantNoParse(t, " "+s)
	wantNoParse(t, "\x00"+s)
	wantNoParse(t, s[1:])
	wantNoParse(t, s[:8]+"\x00\x00\x00\x00"+s[8:])
	wantNoParse(t, strings.Replace(s, "\x18", "\x1c", 1)[:24]+"\x00\x00\x00\x00"+s[24:])
}

// 6.1: each byte of where types and names lie, at each value, tells what the chapter's words make of it.
func TestParseHeadNumbers(t *testing.T) {
	for _, s := range []string{blob(oneTypes, oneNames), blob(oneTypes, oneNames) + "\x00more bytes\x00"} {
		for at := 8; at < 24; at++ {
			for n := range 256 {
				wantTold(t, s[:at]+string([]byte{byte(n)})+s[at+1:])
			}
		}
	}
}

// 6.1: types and names that end at the last byte of s lie within it; one byte further they don't.
func TestParseWithin(t *testing.T) {
	rest := oneTypes + oneNames
	wantParse(t, headed(0, 16, 16, 5, rest), one)
	wantNoParse(t, headed(0, 16, 16, 6, rest))
	wantNoParse(t, headed(0, 16, 17, 5, rest))
	wantNoParse(t, headed(0, 16, 21, 5, rest))
	wantNoParse(t, headed(0, 16, 1<<31, 5, rest))
	wantNoParse(t, headed(0, 16, 16, 1<<31, rest))
	rest = oneNames + oneTypes
	wantParse(t, headed(5, 16, 0, 5, rest), one)
	wantNoParse(t, headed(5, 17, 0, 5, rest))
	wantNoParse(t, headed(6, 16, 0, 5, rest))
	wantNoParse(t, headed(21, 16, 0, 5, rest))
	wantNoParse(t, headed(1<<31, 16, 0, 5, rest))
	wantNoParse(t, headed(5, 1<<31, 0, 5, rest))
}

// 6.1: numbers whose sum leaves 4 bytes, or that count from the head's first byte, are refused.
func TestParseNotRound(t *testing.T) {
	rest := oneTypes + oneNames
	wantNoParse(t, headed(1<<32-1, 17, 16, 5, rest))
	wantNoParse(t, headed(1<<32-16, 32, 16, 5, rest))
	wantNoParse(t, headed(1<<32-24, 40, 16, 5, rest))
	wantNoParse(t, headed(1<<31, 1<<31, 16, 5, rest))
	wantNoParse(t, headed(0, 16, 1<<32-1, 6, rest))
	wantNoParse(t, headed(0, 16, 1<<32-5, 26, rest))
	wantNoParse(t, headed(0, 16, 1<<32-1, 1<<32-1, rest))
	wantNoParse(t, headed(0, 1<<32-1, 16, 5, rest))
	wantNoParse(t, headed(24, 16, 40, 5, rest))
	wantNoParse(t, headed(1<<32-16, 16, 16, 5, rest))
	wantNoParse(t, headed(16, 0, 1<<32-5, 5, rest))
}

// 6.1: no types, wherever within s they begin; names of no bytes begin with no byte 0.
func TestParseNothing(t *testing.T) {
	wantParse(t, headed(0, 0, 0, 1, "\x00"), nil)
	wantParse(t, headed(1, 0, 0, 1, "\x00"), nil)
	wantParse(t, headed(2, 0, 1, 1, "\x07\x00\x07"), nil)
	wantParse(t, headed(3, 0, 1, 2, "\x07\x00\x07"), nil)
	wantNoParse(t, headed(4, 0, 1, 2, "\x07\x00\x07"))
	wantNoParse(t, headed(1<<32-1, 0, 1, 2, "\x07\x00\x07"))
	wantNoParse(t, headed(0, 0, 0, 0, "\x00"))
	wantNoParse(t, headed(0, 0, 1, 0, "\x00"))
	wantNoParse(t, headed(0, 0, 0, 0, ""))
	wantNoParse(t, headed(0, 12, 12, 0, numbers(0, 2<<24, 0)))
	wantNoParse(t, headed(0, 0, 0, 1, ""))
}

// 6.1: bytes between types and names, ahead of both, behind both play no part, whatever they are.
func TestParseOtherBytes(t *testing.T) {
	for _, other := range []string{"\x00", "\xff", "more", "\x9f\xeb\x01\x00", strings.Repeat("\x5a", 257), numbers(0, 2<<24, 0)} {
		n := uint32(len(other))
		wantParse(t, blob(oneTypes, oneNames)+other, one)
		wantParse(t, headed(0, 16, 16+n, 5, oneTypes+other+oneNames), one)
		wantParse(t, headed(n, 16, 16+n, 5, other+oneTypes+oneNames), one)
		wantParse(t, headed(n, 16, 16+2*n, 5, other+oneTypes+other+oneNames+other), one)
		wantParse(t, headed(5, 16, 0, 5, oneNames+oneTypes+other), one)
		wantParse(t, headed(n+5+n, 16, n, 5, other+oneNames+other+oneTypes+other), one)
	}
}

// 6.1: types and names may overlap.
func TestParseOverlap(t *testing.T) {
	pointer := []api.BtfType{{Kind: api.BtfPtr, Type: 5}}
	types := numbers(0, 2<<24, 5)
	for n := uint32(1); n <= 12; n++ {
		wantParse(t, headed(0, 12, 0, n, types), pointer)
	}
	wantParse(t, headed(0, 12, 11, 1, types), pointer)
	wantNoParse(t, headed(0, 12, 8, 1, types))
	// The pointer's Type has the bytes of a name, and the typedef finds it there.
	types = numbers(0, 2<<24, 'a'|'b'<<8, 8, 8<<24, 1)
	both := []api.BtfType{{Kind: api.BtfPtr, Type: 'a' | 'b'<<8}, {Kind: api.BtfTypedef, Name: "ab", Type: 1}}
	wantParse(t, headed(0, 24, 0, 24, types), both)
	wantParse(t, headed(0, 24, 0, 11, types), both)
	wantNoParse(t, headed(0, 24, 0, 10, types))
	// The names begin in the types' last byte, and end behind it.
	wantParse(t, headed(0, 12, 11, 3, numbers(1, 8<<24, 1)+"x\x00"), []api.BtfType{{Kind: api.BtfTypedef, Name: "x", Type: 1}})
	// The types begin in the names' last byte.
	wantParse(t, headed(2, 12, 0, 3, "\x00y"+numbers(0, 2<<24, 1)), []api.BtfType{{Kind: api.BtfPtr, Type: 1}})
}

// 6.1: names that do not begin with a byte 0.
func TestParseNamesBegin(t *testing.T) {
	for n := 1; n < 256; n++ {
		wantNoParse(t, blob(oneTypes, string([]byte{byte(n)})+"u32\x00"))
		wantNoParse(t, blob("", string([]byte{byte(n)})))
		wantNoParse(t, blob("", string([]byte{byte(n)})+"\x00"))
	}
}

// named answers the blob of a struct that has the first number, and of a member that has the second one, as what tells where its name begins.
func named(own, member uint32, names string) string {
	return blob(numbers(own, 4<<24+1, 8, member, 2, 3), names)
}

// wantNames looks at the two names that Parse tells of named.
func wantNames(t *testing.T, own, member uint32, names, first, second string) {
	t.Helper()
	wantParse(t, named(own, member, names), []api.BtfType{{Kind: api.BtfStruct, Name: first, Size: 8, Members: []api.BtfMember{{Name: second, Type: 2, Off: 3}}}})
}

// 6.1: a name begins anywhere within the names, also in the middle of another one or at its end, and ends within them.
func TestParseNames(t *testing.T) {
	names := "\x00abc\x00d\x00"
	texts := []string{"", "abc", "bc", "c", "", "d", ""}
	for own, first := range texts {
		for member, second := range texts {
			wantNames(t, uint32(own), uint32(member), names, first, second)
		}
	}
	for _, past := range []uint32{7, 8, 9, 24, 31, 255, 256, 257, 1 << 16, 1 << 24, top, top + 1, 1<<32 - 7, 1<<32 - 1} {
		wantNoParse(t, named(past, 1, names))
		wantNoParse(t, named(1, past, names))
		wantNoParse(t, named(past, 1, names)+"\x00more\x00")
	}
}

// 6.1: a name does not end behind the names, though bytes follow there.
func TestParseNamesEnd(t *testing.T) {
	names := "\x00abc\x00def"
	wantNames(t, 1, 0, names, "abc", "")
	wantNames(t, 0, 2, names, "", "bc")
	for _, from := range []uint32{5, 6, 7} {
		wantNoParse(t, named(from, 0, names))
		wantNoParse(t, named(0, from, names))
		wantNoParse(t, named(from, 0, names)+"\x00")
		wantNoParse(t, named(0, from, names)+"g\x00")
	}
	wantNames(t, 0, 0, names, "", "")
	wantNoParse(t, named(1, 0, "\x00"+strings.Repeat("a", 1000)))
}

// 6.1: a name that a type or a member has and that is none; where nobody has it, it plays no part.
func TestParseBadNames(t *testing.T) {
	for _, bad := range badNames() {
		if strings.Contains(bad, "\x00") {
			continue
		}
		names := "\x00ok\x00" + bad + "\x00"
		wantNames(t, 1, 1, names, "ok", "ok")
		wantNames(t, 1, 0, names, "ok", "")
		wantNoParse(t, named(4, 1, names))
		wantNoParse(t, named(1, 4, names))
		for _, kind := range []uint32{api.BtfInt, api.BtfTypedef, api.BtfPtr, api.BtfArray} {
			wantNoParse(t, blob(head(kind, 4), names))
		}
	}
}

// head answers a type of a kind that has no members, with the number that tells where its name begins.
func head(kind, from uint32) string {
	switch kind {
	case api.BtfInt:
		return numbers(from, kind<<24, 4, 32)
	case api.BtfArray:
		return numbers(from, kind<<24, 0, 1, 0, 2)
	}
	return numbers(from, kind<<24, 1)
}

// 6.1: other bytes of the names are any: no name, no end.
func TestParseOtherNames(t *testing.T) {
	for _, other := range []string{"9\x00", "\xff\xfe\x00", "a b\x00", "\x00\x00\x00", strings.Repeat("a", 500) + "\x00", "no end", "\xff", numbers(1, 2, 3)} {
		wantNames(t, 1, 3, "\x00a\x00bc\x00"+other, "a", "bc")
		n := uint32(len(other))
		wantNames(t, 3+n, 5+n, "\x00"+other+"\x00\x00a\x00bc\x00", "a", "bc")
	}
	// A name that begins in the middle of what is none.
	wantNames(t, 3, 5, "\x00-9a0\x00", "a0", "")
	wantNames(t, 7, 6, "\x00-9a0-_\x00", "", "_")
	wantNoParse(t, named(3, 4, "\x00-9a0\x00"))
	wantNoParse(t, named(2, 3, "\x00-9a0\x00"))
}

// 6.1: a name of 128 bytes, and the last 128 of one that is longer; 129 are too many.
func TestParseLongNames(t *testing.T) {
	long := strings.Repeat("ab", 64)
	names := "\x00" + long + "\x00x\x00"
	wantNames(t, 1, 130, names, long, "x")
	wantNames(t, 130, 1, names, "x", long)
	names = "\x00" + long + "c\x00"
	wantNames(t, 2, 2, names, long[1:]+"c", long[1:]+"c")
	wantNoParse(t, named(1, 2, names))
	wantNoParse(t, named(2, 1, names))
	wantNames(t, 1, 1, "\x00"+long+"\x00", long, long)
	wantNoParse(t, named(1, 0, "\x00"+long))
}

// 6.1: ints and typedefs have a name, pointers and arrays none, wherever the empty one stands.
func TestParseNamedOrNot(t *testing.T) {
	names := "\x00a\x00"
	for _, c := range []struct {
		kind  uint32
		named bool
	}{{api.BtfInt, true}, {api.BtfTypedef, true}, {api.BtfPtr, false}, {api.BtfArray, false}} {
		for from, text := range []string{"", "a", ""} {
			s := blob(head(c.kind, uint32(from)), names)
			if (text != "") != c.named {
				wantNoParse(t, s)
				continue
			}
			l, e := btf.Parse(s)
			if e != api.OK || len(l) != 1 || l[0].Name != text || l[0].Kind != int(c.kind) {
				t.Errorf("kind %d, name at %d: %v, error %d", c.kind, from, l, e)
			}
		}
	}
	wantParse(t, blob(numbers(0, 4<<24, 1), names), []api.BtfType{{Kind: api.BtfStruct, Size: 1}})
	wantParse(t, blob(numbers(2, 4<<24, 1), names), []api.BtfType{{Kind: api.BtfStruct, Size: 1}})
	wantParse(t, blob(numbers(1, 4<<24, 1), names), []api.BtfType{{Kind: api.BtfStruct, Name: "a", Size: 1}})
}

// 6.1: of all kinds that a byte may tell, five are taken, whichever bytes follow.
func TestParseKinds(t *testing.T) {
	for kind := uint32(0); kind < 256; kind++ {
		for n := range 7 {
			for from := range uint32(2) {
				s := blob(numbers(from, kind<<24)+numbers(4, 32, 0, 0, 0, 0, 0)[:4*n], "\x00a\x00")
				wantTold(t, s)
				switch kind {
				case 1, 2, 3, 4, 8:
				default:
					wantNoParse(t, s)
				}
			}
		}
	}
}

// 6.1: an int's second number is 8 times its Size.
func TestParseIntBits(t *testing.T) {
	for size := range uint32(70) {
		for bits := range uint32(600) {
			s := blob(numbers(1, 1<<24, size, bits), "\x00a\x00")
			if bits == 8*size && (size == 1 || size == 2 || size == 4 || size == 8) {
				wantParse(t, s, []api.BtfType{{Kind: api.BtfInt, Name: "a", Size: int(size)}})
			} else {
				wantNoParse(t, s)
			}
		}
	}
	for _, c := range [][2]uint32{{4, 32 + 1<<8}, {4, 32 + 1<<16}, {4, 32 + 1<<24}, {4, 32 + 1<<31}, {4 + 1<<29, 32}, {1 << 29, 0}, {1 << 31, 0}, {1<<31 + 8, 64}, {1<<32 - 1, 1<<32 - 8}} {
		wantNoParse(t, blob(numbers(1, 1<<24, c[0], c[1]), "\x00a\x00"))
	}
}

// 6.1: an array's two numbers that are 0.
func TestParseArrayZeros(t *testing.T) {
	wantParse(t, blob(numbers(0, 3<<24, 0, 1, 0, 2), "\x00"), []api.BtfType{{Kind: api.BtfArray, Type: 1, Count: 2}})
	for bit := range 32 {
		wantNoParse(t, blob(numbers(0, 3<<24, 1<<bit, 1, 0, 2), "\x00"))
		wantNoParse(t, blob(numbers(0, 3<<24, 0, 1, 1<<bit, 2), "\x00"))
	}
}

// 6.1: types that are no structs have no parts, whether or not bytes for them follow.
func TestParseNoParts(t *testing.T) {
	for _, kind := range []uint32{api.BtfInt, api.BtfTypedef, api.BtfPtr, api.BtfArray} {
		from := uint32(1)
		if kind == api.BtfPtr || kind == api.BtfArray {
			from = 0
		}
		body := head(kind, from)[8:]
		wantTaken(t, blob(numbers(from, kind<<24)+body, "\x00a\x00"))
		for bit := range 24 {
			parts := uint32(1) << bit
			s := numbers(from, kind<<24|parts) + body
			wantNoParse(t, blob(s, "\x00a\x00"))
			wantNoParse(t, blob(s+strings.Repeat("\x00", 12*int(min(parts, 1<<16))), "\x00a\x00"))
			wantNoParse(t, blob(s+strings.Repeat("\x00", 12*int(parts%(1<<16))), "\x00a\x00"))
		}
	}
}

// wantTaken looks whether Parse takes s.
func wantTaken(t *testing.T, s string) {
	t.Helper()
	if l, e := btf.Parse(s); e != api.OK {
		t.Errorf("Parse(%x): %v, error %d", start(s), l, e)
	}
}

// 6.1: a struct has as many members as it says, at most 1024, and its parts are all of what isn't its kind.
func TestParseParts(t *testing.T) {
	for _, n := range []uint32{0, 1, 2, 255, 256, 257, 1023, 1024, 1025, 2047, 2048, 65535, 1 << 16, 1<<16 + 1, 1<<16 + 1024, 1 << 17, 1 << 20, 1 << 23, 1<<24 - 1} {
		lowest := n % (1 << 16)
		for _, members := range []uint32{n, lowest} {
			if members > 1<<17 {
				continue
			}
			s := blob(numbers(0, 4<<24|n, 9)+strings.Repeat(numbers(0, 1, 8), int(members)), "\x00")
			if n > 1024 {
				wantNoParse(t, s)
				continue
			}
			want := []api.BtfType{{Kind: api.BtfStruct, Size: 9}}
			for range n {
				want[0].Members = append(want[0].Members, api.BtfMember{Type: 1, Off: 8})
			}
			wantParse(t, s, want)
		}
	}
}

// 6.1: a struct that lacks a member's bytes; what stands behind its members is the next type.
func TestParsePartsEnd(t *testing.T) {
	types := numbers(0, 4<<24+2, 9, 0, 1, 8, 1, 2, 16)
	want := []api.BtfType{{Kind: api.BtfStruct, Size: 9, Members: []api.BtfMember{{Type: 1, Off: 8}, {Name: "a", Type: 2, Off: 16}}}}
	wantParse(t, blob(types, "\x00a\x00"), want)
	for n := 1; n < len(types); n++ {
		wantNoParse(t, blob(types[:n], "\x00a\x00"))
	}
	wantParse(t, blob(types+numbers(0, 2<<24, 3), "\x00a\x00"), append(want, api.BtfType{Kind: api.BtfPtr, Type: 3}))
	wantNoParse(t, blob(numbers(0, 4<<24+3, 9, 0, 1, 8, 1, 2, 16), "\x00a\x00"))
	wantNoParse(t, blob(numbers(0, 4<<24+1, 9, 0, 1, 8, 1, 2, 16), "\x00a\x00"))
}

// 6.1: types end just where they should: each kind cut, and with bytes behind it.
func TestParseTypesEnd(t *testing.T) {
	for _, l := range sample() {
		s := build(t, []api.BtfType{l})
		end := 24 + int(s[12])
		types, names := s[24:end], s[end:]
		wantParse(t, blob(types, names), []api.BtfType{l})
		wantParse(t, blob(types+types, names), []api.BtfType{l, l})
		for n := 1; n < len(types); n++ {
			wantNoParse(t, blob(types[:n], names))
			wantNoParse(t, headed(0, uint32(n), uint32(len(types)), uint32(len(names)), types+names))
			wantNoParse(t, blob(types+types[:n], names))
		}
		for n := 1; n < 12; n++ {
			wantNoParse(t, blob(types+strings.Repeat("\x00", n), names))
		}
	}
}

// 6.1: a Type, a Count, an Off, a struct's Size at 2^31 - 1 and above it.
func TestParseNumberEdges(t *testing.T) {
	for _, c := range []struct {
		types string
		at    int // the number that is looked at
		set   func(*api.BtfType, int)
		want  api.BtfType
	}{
		{numbers(0, 2<<24, 0), 2, func(t *api.BtfType, n int) { t.Type = n }, api.BtfType{Kind: api.BtfPtr}},
		{numbers(1, 8<<24, 0), 2, func(t *api.BtfType, n int) { t.Type = n }, api.BtfType{Kind: api.BtfTypedef, Name: "a"}},
		{numbers(0, 3<<24, 0, 0, 0, 7), 3, func(t *api.BtfType, n int) { t.Type = n }, api.BtfType{Kind: api.BtfArray, Count: 7}},
		{numbers(0, 3<<24, 0, 7, 0, 0), 5, func(t *api.BtfType, n int) { t.Count = n }, api.BtfType{Kind: api.BtfArray, Type: 7}},
		{numbers(0, 4<<24, 0), 2, func(t *api.BtfType, n int) { t.Size = n }, api.BtfType{Kind: api.BtfStruct}},
		{numbers(0, 4<<24+1, 0, 1, 0, 5), 4, func(t *api.BtfType, n int) { t.Members = []api.BtfMember{{Name: "a", Type: n, Off: 5}} }, api.BtfType{Kind: api.BtfStruct}},
		{numbers(0, 4<<24+1, 0, 1, 5, 0), 5, func(t *api.BtfType, n int) { t.Members = []api.BtfMember{{Name: "a", Type: 5, Off: n}} }, api.BtfType{Kind: api.BtfStruct}},
	} {
		with := func(n uint32) string {
			return blob(c.types[:4*c.at]+numbers(n)+c.types[4*c.at+4:], "\x00a\x00")
		}
		for _, n := range []uint32{0, 1, 2, 255, 256, 65535, 65536, 1 << 24, 0x12345678, top - 1, top} {
			want := c.want
			c.set(&want, int(n))
			wantParse(t, with(n), []api.BtfType{want})
		}
		for _, n := range []uint32{top + 1, top + 2, 0x87654321, 1<<32 - 2, 1<<32 - 1} {
			wantNoParse(t, with(n))
		}
	}
}

// 6.1: 1024 types, and more.
func TestParseTypeCounts(t *testing.T) {
	pointer := numbers(0, 2<<24, 5)
	for _, n := range []int{1, 2, 255, 256, 1023, 1024} {
		l, e := btf.Parse(blob(strings.Repeat(pointer, n), "\x00"))
		if e != api.OK || len(l) != n || !same(l[n-1:], []api.BtfType{{Kind: api.BtfPtr, Type: 5}}) {
			t.Errorf("%d types: %d of them, error %d", n, len(l), e)
		}
	}
	for _, n := range []int{1025, 1026, 2048, 1 << 16} {
		wantNoParse(t, blob(strings.Repeat(pointer, n), "\x00"))
	}
	wantNoParse(t, blob(strings.Repeat(pointer, 1024)+"\x00", "\x00"))
}

// 6.1: one wrong type is found wherever it stands.
func TestParseWrongAnywhere(t *testing.T) {
	s := build(t, sample())
	end := 24 + int(s[12])
	types, names := s[24:end], s[end:]
	starts := []int{0, 16, 28, 40, 64, len(types)}
	for _, at := range starts {
		wantNoParse(t, blob(types[:at]+numbers(0, 0, 0)+types[at:], names))
		wantNoParse(t, blob(types[:at]+numbers(0, 5<<24, 0)+types[at:], names))
		wantNoParse(t, blob(types[:at]+numbers(1, 2<<24, 0)+types[at:], names))
		wantTaken(t, blob(types[:at]+numbers(0, 2<<24, 0)+types[at:], names))
	}
	wantNoParse(t, blob(strings.Repeat(numbers(0, 2<<24, 5), 1023)+numbers(0, 9<<24, 5), "\x00"))
}

// R1: much that may be wrong at once ends soon.
func TestParseMuch(t *testing.T) {
	many := strings.Repeat("a", 1<<20)
	member := numbers(1, 1, 1)
	wantNoParse(t, blob(strings.Repeat(numbers(0, 4<<24+1024, 0)+strings.Repeat(member, 1024), 100), "\x00"+many))
	wantNoParse(t, blob(strings.Repeat(numbers(1, 8<<24, 0), 1024), "\x00"+many+"\x00"))
	wantNoParse(t, many)
	wantNoParse(t, blob(many, "\x00"+many))
}

// R4: what Parse told is its own: no list of it is one of another's.
func TestParseKeepsNothing(t *testing.T) {
	s := build(t, append(sample(), sample()...))
	before, _ := btf.Parse(s)
	want := copied(before)
	l, e := btf.Parse(s)
	if e != api.OK || len(l) != 10 {
		t.Fatalf("Parse: %v, error %d", l, e)
	}
	for k := range l {
		l[k].Members = append(l[k].Members, api.BtfMember{Name: "more", Type: 99})
		l[k].Members[0] = api.BtfMember{Name: "other", Type: 98}
		l[k].Size++
	}
	_ = append(l, api.BtfType{Kind: 99})
	if !same(before, want) {
		t.Errorf("a list of types changes with another: %v", before)
	}
	if n := len(l[4].Members); n != 3 || l[4].Members[1].Type != 9 || l[9].Members[2].Name != "more" {
		t.Errorf("members of one type change with another's: %v", l)
	}
	if got, _ := btf.Parse(s); !same(got, want) {
		t.Errorf("Parse tells another time: %v", got)
	}
}
