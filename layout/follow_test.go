package layout_test

import (
	"testing"

	"portcullis/api"
	"portcullis/btf"
	"portcullis/layout"
)

// size is Size of what has one.
func size(t *testing.T, l []api.BtfType, id int) int {
	t.Helper()
	n, e := layout.Size(l, id)
	if e != api.OK {
		t.Fatalf("Size(%v, %d): error %d", short(l), id, e)
	}
	return n
}

// drawWell answers many lists of types that are well.
func drawWell(t *testing.T) [][]api.BtfType {
	t.Helper()
	draw := draws()
	var out [][]api.BtfType
	for range 4000 {
		l := drawTypes(draw, 20)
		if _, e := layout.Check(l); e == api.OK {
			out = append(out, l)
		}
	}
	if len(out) < 400 {
		t.Fatalf("%d of 4000 are well", len(out))
	}
	for range 500 {
		l := drawNested(draw)
		wantWell(t, l)
		out = append(out, l)
	}
	return append(out, example(), packet())
}

// 7.4: a field lies within its struct, with its size, over paths of up to three names.
func TestFieldsLieWithin(t *testing.T) {
	names, fields := []string{"a", "b", "c", "x", "in", "out"}, [4]int{}
	var follow func(l []api.BtfType, from, at int, path []string)
	follow = func(l []api.BtfType, from, at int, path []string) {
		for _, name := range names {
			longer := append(path[:len(path):len(path)], name)
			off, to, e := layout.Field(l, from, longer)
			if e != api.OK {
				continue
			}
			fields[len(longer)]++
			if all := size(t, l, from); off < at || off+size(t, l, to) > all {
				t.Errorf("Field(%v, %d, %q): %d, %d of %d bytes, within %d from %d on", short(l), from, longer, off, to, size(t, l, to), all, at)
			}
			if len(longer) < 3 {
				follow(l, from, off, longer)
			}
		}
	}
	for _, l := range drawWell(t) {
		for id := range len(l) + 1 {
			follow(l, id, 0, nil)
		}
	}
	if fields[1] < 1000 || fields[3] < 500 {
		t.Errorf("fields by how long their path is: %v", fields)
	}
}

// 7.4: a path walked name by name leads where the whole path does.
func TestFieldPieceByPiece(t *testing.T) {
	draw := draws()
	walked := 0
	for _, l := range drawWell(t) {
		for id := range len(l) + 1 {
			p := drawPath(draw)
			if draw()%2 == 0 {
				p = among(draw, path("out.in.b"), path("in.a"), path("x.b"), path("a.b"))
			}
			off, to, e := layout.Field(l, id, p)
			at, sum, err := id, 0, api.OK
			for _, name := range p {
				stripped, stripErr := layout.Strip(l, at)
				if stripErr != api.OK {
					t.Fatalf("Strip(%v, %d): error %d", short(l), at, stripErr)
				}
				n, next, fieldErr := layout.Field(l, stripped, []string{name})
				if err = fieldErr; err != api.OK {
					at, sum = 0, 0
					break
				}
				at, sum = next, sum+n
			}
			if off != sum || to != at || e != err {
				t.Errorf("Field(%v, %d, %q): %d, %d, error %d; piece by piece %d, %d, error %d", short(l), id, p, off, to, e, sum, at, err)
			}
			if e == api.OK && len(p) > 1 {
				walked++
			}
		}
	}
	if walked < 60 {
		t.Errorf("%d paths of several names", walked)
	}
}

// 7.4: sizes of arrays are multiples, those of typedefs their Type's; a type that is no typedef is its own end.
func TestSizesFollow(t *testing.T) {
	for _, l := range drawWell(t) {
		for k, one := range l {
			n := size(t, l, k+1)
			if n < 0 || n > 1<<20 {
				t.Errorf("Size(%v, %d): %d", short(l), k+1, n)
			}
			to, _ := layout.Strip(l, k+1)
			switch one.Kind {
			case api.BtfArray:
				if want := one.Count * size(t, l, one.Type); n != want {
					t.Errorf("Size(%v, %d): %d; want %d", short(l), k+1, n, want)
				}
			case api.BtfTypedef:
				if n != size(t, l, one.Type) || n != size(t, l, to) || l[to-1].Kind == api.BtfTypedef {
					t.Errorf("Size(%v, %d): %d, stripped %d", short(l), k+1, n, to)
				}
				continue
			}
			if to != k+1 {
				t.Errorf("Strip(%v, %d): %d", short(l), k+1, to)
			}
		}
	}
}

// 7.4: types that a blob tells are those that were laid in it.
func TestTypesOfBlobs(t *testing.T) {
	l := packet()
	for k := range l {
		if l[k].Kind == api.BtfArray || l[k].Kind == api.BtfPtr {
			l[k].Name = ""
		}
	}
	s, e := btf.Build(l)
	if e != api.OK {
		t.Fatalf("Build(%v): error %d", l, e)
	}
	read, e := btf.Parse(s)
	if e != api.OK {
		t.Fatalf("Parse: error %d", e)
	}
	wantWell(t, read)
	wantField(t, read, 10, []string{"out", "in", "b"}, 72, 1, api.OK)
	wantSizes(t, read, 4, 12, 12, 12, 40, 4, 4, 8, 40, 100, 24, 0)
}
