package btf_test

import (
	"strings"
	"testing"

	"portcullis/api"
	"portcullis/btf"
)

// drawName answers a name of few or of many bytes; few of them differ, so that names come again.
func drawName(draw func() uint64) string {
	size := 1 + draw()%3
	if draw()%40 == 0 {
		size = 1 + draw()%128
	}
	var b strings.Builder
	for k := range size {
		bytes := nameBytes
		if k == 0 {
			bytes = firstBytes
		}
		if draw()%3 > 0 {
			bytes = bytes[:2]
		}
		b.WriteByte(bytes[draw()%uint64(len(bytes))])
	}
	return b.String()
}

// drawNumber answers a number of any size that may be.
func drawNumber(draw func() uint64) int { return int(draw() % (1 << 31) >> (draw() % 32)) }

// drawType answers a type that may be.
func drawType(draw func() uint64) api.BtfType {
	switch draw() % 5 {
	case 0:
		return api.BtfType{Kind: api.BtfInt, Name: drawName(draw), Size: 1 << (draw() % 4)}
	case 1:
		return api.BtfType{Kind: api.BtfPtr, Type: drawNumber(draw)}
	case 2:
		return api.BtfType{Kind: api.BtfTypedef, Name: drawName(draw), Type: drawNumber(draw)}
	case 3:
		return api.BtfType{Kind: api.BtfArray, Type: drawNumber(draw), Count: drawNumber(draw)}
	}
	one := api.BtfType{Kind: api.BtfStruct, Size: drawNumber(draw)}
	if draw()%2 == 0 {
		one.Name = drawName(draw)
	}
	for range draw() % 6 {
		m := api.BtfMember{Type: drawNumber(draw), Off: drawNumber(draw)}
		if draw()%4 > 0 {
			m.Name = drawName(draw)
		}
		one.Members = append(one.Members, m)
	}
	return one
}

// laid is Build as the chapter's words go, of types that may be: a name is looked for among those that stand.
func laid(l []api.BtfType) string {
	types, names := "", "\x00"
	number := func(n int) { types += numbers(uint32(n)) }
	name := func(s string) {
		if s == "" {
			number(0)
			return
		}
		if !strings.Contains(names, "\x00"+s+"\x00") {
			names += s + "\x00"
		}
		number(strings.Index(names, "\x00"+s+"\x00") + 1)
	}
	for _, t := range l {
		name(t.Name)
		number(len(t.Members) + t.Kind*(1<<24))
		switch t.Kind {
		case api.BtfInt:
			number(t.Size)
			number(8 * t.Size)
		case api.BtfArray:
			number(0)
			number(t.Type)
			number(0)
			number(t.Count)
		case api.BtfStruct:
			number(t.Size)
		default:
			number(t.Type)
		}
		for _, m := range t.Members {
			name(m.Name)
			number(m.Type)
			number(m.Off)
		}
	}
	return blob(types, names)
}

// 6.2: lists of types are told again as they were, whatever stands behind their blob; the blob is the model's.
func TestTypesAndBack(t *testing.T) {
	draw := draws()
	for n := range 3000 {
		l := make([]api.BtfType, n%17)
		for k := range l {
			l[k] = drawType(draw)
		}
		wantBuild(t, l, laid(l))
		wantParse(t, build(t, l)+"\x00\xff more", l)
	}
}

// 6.2: as many types as there may be are told again.
func TestManyTypesAndBack(t *testing.T) {
	draw := draws()
	for range 4 {
		l := make([]api.BtfType, api.MaxTypes)
		for k := range l {
			l[k] = drawType(draw)
		}
		wantBuild(t, l, laid(l))
	}
}

// 6.2: what Parse tells of a blob whose parts lie elsewhere, and whose names stand otherwise, has a blob, of which the same is read.
func TestBlobsAndBack(t *testing.T) {
	draw := draws()
	for n := range 2000 {
		l := make([]api.BtfType, n%9)
		for k := range l {
			l[k] = drawType(draw)
		}
		s := laid(l)
		typesLen := uint32(s[12]) | uint32(s[13])<<8
		types, names := s[24:24+typesLen], s[24+typesLen:]
		namesLen := uint32(len(names))
		other := strings.Repeat("\x9f", n%5)
		gap := uint32(n % 5)
		moved := headed(namesLen+2*gap, typesLen, gap, namesLen, other+names+other+types+other)
		got, e := btf.Parse(moved)
		if e != api.OK || !same(got, l) {
			t.Fatalf("Parse(%x): %v, error %d; want %v", moved, short(got), e, short(l))
		}
		if build(t, got) != s {
			t.Errorf("Build of Parse(%x) is another blob than Build's", moved)
		}
	}
}

// 6.2: what Build takes, Parse tells; what it refuses, Parse tells of no blob that is laid as its words say. Types of which one number or name is drawn anew.
func TestBuildAgainstParse(t *testing.T) {
	draw := draws()
	some := []int{-1, 0, 1, 2, 3, 4, 5, 8, 9, 16, top, top + 1, 1 << 32, 1<<32 + 1, 1<<32 + 4}
	texts := []string{"", "a", "9", "a b", "a\x00", strings.Repeat("a", 128), strings.Repeat("a", 129)}
	taken := 0
	for range 20000 {
		one := drawType(draw)
		n, text := some[draw()%uint64(len(some))], texts[draw()%uint64(len(texts))]
		switch draw() % 7 {
		case 0:
			one.Kind = n
		case 1:
			one.Size = n
		case 2:
			one.Type = n
		case 3:
			one.Count = n
		case 4:
			one.Name = text
		case 5:
			one.Members = append(one.Members, api.BtfMember{Name: text, Type: n})
		case 6:
			one.Members = append(one.Members, api.BtfMember{Name: "m", Off: n})
		}
		l := []api.BtfType{one}
		if got, ok := told(laid(l)); ok && same(got, l) {
			wantBuild(t, l, laid(l))
			taken++
		} else {
			wantNoBuild(t, l)
		}
	}
	if taken < 2000 || taken > 18000 {
		t.Errorf("%d of 20000 are taken", taken)
	}
}
