package layout_test

import (
	"slices"
	"strings"
	"testing"

	"portcullis/api"
	"portcullis/layout"
)

// packet is types for paths.
func packet() []api.BtfType {
	return list(
		integer(4), // 1
		structure(12, member("a", 1, 0), member("b", 1, 4), member("", 1, 8), member("b", 6, 8)), // 2
		typedef(2), // 3
		typedef(3), // 4
		structure(40, member("in", 4, 8), member("a", 7, 20), member("to", 8, 24), member("d", 3, 3)), // 5
		array(1, 1), // 6
		typedef(1),  // 7
		pointer(2),  // 8
		typedef(5),  // 9
		structure(100, member("out", 9, 60), member("a", 2, 0), member("l", 11, 12)), // 10
		array(2, 2),  // 11
		structure(0), // 12
	)
}

// path answers the names of a text, between which stand points.
func path(s string) []string {
	if s == "" {
		return nil
	}
	return strings.Split(s, ".")
}

// 7.2: the chapter's example.
func TestFieldExample(t *testing.T) {
	l := example()
	wantField(t, l, 2, []string{"b"}, 4, 1, api.OK)
	wantField(t, l, 2, []string{"a"}, 0, 1, api.OK)
	wantField(t, l, 6, []string{"x", "b"}, 12, 1, api.OK)
	wantField(t, l, 6, []string{"x"}, 8, 4, api.OK)
}

// 7.2: no path leads to the type itself, which is not stripped; of nothing, too.
func TestFieldNoPath(t *testing.T) {
	l := packet()
	for id := range len(l) + 1 {
		wantField(t, l, id, nil, 0, id, api.OK)
		wantField(t, l, id, []string{}, 0, id, api.OK)
	}
	wantField(t, nil, 0, nil, 0, 0, api.OK)
}

// 7.2: paths of one name and of several, over typedefs, to types of each kind.
func TestFieldPaths(t *testing.T) {
	for _, c := range []struct {
		id      int
		path    string
		off, to int
	}{
		{2, "a", 0, 1}, {2, "b", 4, 1},
		{3, "a", 0, 1}, {3, "b", 4, 1}, {4, "b", 4, 1},
		{5, "in", 8, 4}, {5, "a", 20, 7}, {5, "to", 24, 8}, {5, "d", 3, 3},
		{5, "in.a", 8, 1}, {5, "in.b", 12, 1}, {5, "d.b", 7, 1},
		{9, "in", 8, 4}, {9, "in.b", 12, 1},
		{10, "out", 60, 9}, {10, "out.in", 68, 4}, {10, "out.in.b", 72, 1}, {10, "out.d.a", 63, 1}, {10, "out.a", 80, 7}, {10, "out.to", 84, 8},
		{10, "a", 0, 2}, {10, "a.b", 4, 1}, {10, "l", 12, 11},
	} {
		wantField(t, packet(), c.id, path(c.path), c.off, c.to, api.OK)
	}
}

// 7.2: a name that no member has, or that leads on behind what is no struct; a text is the name, or is not.
func TestFieldNone(t *testing.T) {
	for _, c := range []struct {
		id   int
		path string
	}{
		{2, "c"}, {2, "A"}, {2, "aa"}, {2, "b "}, {2, "\x00"}, {5, "in.c"}, {5, "b"}, {5, "i"}, {12, "a"},
		{0, "a"}, {1, "a"}, {6, "a"}, {7, "a"}, {8, "a"}, {11, "a"}, {11, "0"},
		{2, "a.a"}, {5, "a.a"}, {5, "to.a"}, {10, "l.a"}, {10, "out.in.b.a"}, {10, "out.to.a"}, {2, "a.a.a.a"}, {2, "c.a"},
	} {
		wantField(t, packet(), c.id, path(c.path), 0, 0, api.ErrNone)
	}
}

// 7.2: an empty name is none, though a member has no name.
func TestFieldEmptyName(t *testing.T) {
	for _, p := range [][]string{{""}, {"", "a"}, {"a", ""}, {"", ""}} {
		for id := range len(packet()) + 1 {
			wantField(t, packet(), id, p, 0, 0, api.ErrNone)
		}
	}
	wantField(t, packet(), 10, []string{"out", "", "in"}, 0, 0, api.ErrNone)
}

// 7.2: of two members of one name the first one counts, though it lies behind the other, or a path leads through the other alone.
func TestFieldFirstCounts(t *testing.T) {
	l := list(integer(1), structure(2, member("x", 1, 1)), structure(9, member("m", 1, 8), member("m", 2, 0), member("n", 2, 0), member("n", 1, 5)))
	wantField(t, l, 3, []string{"m"}, 8, 1, api.OK)
	wantField(t, l, 3, []string{"m", "x"}, 0, 0, api.ErrNone)
	wantField(t, l, 3, []string{"n"}, 0, 2, api.OK)
	wantField(t, l, 3, []string{"n", "x"}, 1, 1, api.OK)
}

// 7.2: a member behind a list's end is none.
func TestFieldBehindEnd(t *testing.T) {
	l := list(integer(1), structure(2, member("x", 1, 1), member("y", 1, 0)))
	l[1].Members = l[1].Members[:1]
	wantField(t, l, 2, []string{"y"}, 0, 0, api.ErrNone)
	names := []string{"x", "y"}
	wantField(t, l, 2, names[:1], 1, 1, api.OK)
}

// 7.2: what is no struct has no members, whatever stands in it.
func TestFieldNoStruct(t *testing.T) {
	l := list(integer(4), pointer(1), array(1, 2))
	for k := range l {
		l[k].Members = []api.BtfMember{member("a", 1, 0)}
		wantField(t, l, k+1, []string{"a"}, 0, 0, api.ErrNone)
	}
}

// 7.2: numbers that no type has, whatever the path is; what Check refuses goes ahead of them, and of a name that is none.
func TestFieldNoType(t *testing.T) {
	for _, id := range noIds(len(packet())) {
		for _, p := range [][]string{nil, {"a"}, {""}, {"out", "in"}, {"a", "a", "a"}} {
			wantField(t, packet(), id, p, 0, 0, api.ErrArg)
		}
	}
	wantField(t, nil, 1, nil, 0, 0, api.ErrArg)
	l := packet()
	l[11].Size = -1
	wantWrong(t, l, 12)
	for _, id := range []int{-1, 0, 1, 2, 10, 12, 13} {
		for _, p := range [][]string{nil, {"a"}, {""}, {"out", "in"}} {
			wantField(t, l, id, p, 0, 0, api.ErrType)
		}
	}
}

// 7.2: a path through as many structs as there may be; one name more leads nowhere.
func TestFieldLongPath(t *testing.T) {
	l := []api.BtfType{integer(4)}
	for k := 1; k < api.MaxTypes; k++ {
		l = append(l, structure(4+k, member("k", 1, 0), member("m", k, 1)))
	}
	for _, n := range []int{0, 1, 2, 100, api.MaxTypes - 1} {
		wantField(t, l, api.MaxTypes, slices.Repeat([]string{"m"}, n), n, api.MaxTypes-n, api.OK)
	}
	for _, n := range []int{api.MaxTypes, api.MaxTypes + 1, 1 << 16} {
		wantField(t, l, api.MaxTypes, slices.Repeat([]string{"m"}, n), 0, 0, api.ErrNone)
	}
	wantField(t, l, api.MaxTypes, append(slices.Repeat([]string{"m"}, 9), "k"), 9, 1, api.OK)
}

// 7.2: the greatest offset that a field may have.
func TestFieldGreatestOff(t *testing.T) {
	l := list(integer(1), structure(65536, member("a", 1, 65535), member("e", 3, 65536)), structure(0))
	wantField(t, l, 2, []string{"a"}, 65535, 1, api.OK)
	wantField(t, l, 2, []string{"e"}, 65536, 3, api.OK)
}

// drawPath answers a path that mostly leads somewhere.
func drawPath(draw func() uint64) []string {
	p := make([]string, draw()%4)
	for k := range p {
		p[k] = among(draw, "a", "a", "a", "b", "b", "b", "c", "c", "d", "")
	}
	return p
}

// 7.2: Field of drawn types and paths is the model's.
func TestFieldAgainstModel(t *testing.T) {
	draw := draws()
	found := [4]int{} // by how long the path is
	for n := range 8000 {
		l := drawNested(draw)
		if n%2 == 0 {
			l = drawTypes(draw, 14)
		}
		if _, e := layout.Check(l); e != api.OK {
			continue
		}
		for range 8 {
			id, p := int(draw()%uint64(len(l)+1)), drawPath(draw)
			off, to, ok := model(l).field(id, p)
			if !ok {
				wantField(t, l, id, p, 0, 0, api.ErrNone)
				continue
			}
			wantField(t, l, id, p, off, to, api.OK)
			found[len(p)]++
		}
	}
	if found[3] < 50 {
		t.Errorf("paths that lead somewhere, by their length: %v", found)
	}
}
