package shape_test

import (
	"math"
	"slices"
	"strings"
	"testing"

	"portcullis/api"
	"portcullis/shape"
)

// 5.2: the places to which each instruction of a program goes; none from a second slot, and from no place.
func TestNext(t *testing.T) {
	l := slots(t, "r1 = 7 ll;if r1 == 0 goto +3;r2 = map 4 ll;call 1;if w2 > w1 goto +0;r0 += 1;goto -9;exit")
	for at, want := range [][]int{
		{2}, nil, {3, 6}, {5}, nil, {6}, {7, 7}, {8}, {0}, nil,
	} {
		wantNext(t, l, at, want...)
	}
	for _, at := range []int{math.MinInt, -10, -2, -1, 10, 11, 4096, math.MaxInt} {
		wantNext(t, l, at)
	}
}

// 5.2: small programs, at each place.
func TestNextSmall(t *testing.T) {
	for _, c := range []struct {
		text string
		want [][]int
	}{
		{"exit", [][]int{nil}},
		{"goto -1", [][]int{{0}}},
		{"goto +0;exit", [][]int{{1}, nil}},
		{"goto +1;exit;goto -2", [][]int{{2}, nil, {1}}},
		{"if r1 == 0 goto -1;exit", [][]int{{1, 0}, nil}},
		{"if w1 s<= 0 goto +0;exit", [][]int{{1, 1}, nil}},
		{"exit;if r1 & r2 goto -2;exit", [][]int{nil, {2, 0}, nil}},
		{"call 1;call 2;exit", [][]int{{1}, {2}, nil}},
		{"r1 = 1 ll;r1 = 2 ll;goto -5", [][]int{{2}, nil, {4}, nil, {0}}},
	} {
		l := slots(t, c.text)
		for at, want := range c.want {
			wantNext(t, l, at, want...)
		}
		wantNext(t, l, -1)
		wantNext(t, l, len(l))
	}
}

// 5.2: each row of the table in a program: a jump with a test goes to two places, all but a goto and an exit behind themselves.
func TestNextRows(t *testing.T) {
	for _, s := range rows() {
		l := slots(t, "r0 = 1;r0 = 1;r0 = 1;"+s+";r0 = 1;r0 = 1;r0 = 1;r0 = 1;exit")
		want := []int{4}
		switch {
		case s == "exit":
			want = nil
		case s == "goto -4":
			want = []int{0}
		case s == "goto +4":
			want = []int{8}
		case strings.HasPrefix(s, "if"):
			want = []int{4, 8}
		}
		wantNext(t, l, 3, want...)
	}
}

// 5.2: of what Check refuses there is no place to go to.
func TestNextOfNoProgram(t *testing.T) {
	for _, l := range [][]api.Insn{
		nil,
		slots(t, "r0 = 2"),
		slots(t, "goto +0;r0 = 2"),
		slots(t, "goto +0;exit;goto +5"),
		slots(t, "goto +0;exit;r10 = 0;exit"),
		{{Op: 5}, exit, {Op: 24}},
		{{Op: 5}, {Op: 24}, {Imm: 1, Op: 5}, exit},
		append([]api.Insn{{Op: 5}}, filled(api.MaxInsns)...),
	} {
		for at := -1; at <= min(len(l), 5); at++ {
			wantNext(t, l, at)
		}
	}
}

// 5.2: Next, and Reaches, of the longest program.
func TestLongest(t *testing.T) {
	l := filled(api.MaxInsns)
	l[0].Op = 5
	l[0].Dst, l[0].Imm, l[0].Off = 0, 0, api.MaxInsns-2
	wantNext(t, l, 0, api.MaxInsns-1)
	wantNext(t, l, 1, 2)
	wantNext(t, l, api.MaxInsns-1)
	wantReaches(t, l, "1"+strings.Repeat("0", api.MaxInsns-2)+"1")
	wantReaches(t, filled(api.MaxInsns), strings.Repeat("1", api.MaxInsns))
	wantReaches(t, filled(api.MaxInsns+1), strings.Repeat("0", api.MaxInsns+1))
}

// 5.2: Next of drawn lists, at each place, tells what chapter 4's lines tell.
func TestNextAsTheLinesTell(t *testing.T) {
	draw := draws()
	for range 5000 {
		l := drawProgram(draw)
		m, _, _ := read(l)
		for at := -1; at <= len(l); at++ {
			wantNext(t, l, at, m.next(at)...)
		}
	}
}

// 5.3: each place that Next tells is one of an instruction, and from the first place on so is each that is come to.
func TestNextTellsPlaces(t *testing.T) {
	draw := draws()
	for range 5000 {
		l := drawProgram(draw)
		m, _, _ := read(l)
		for at := -1; at <= len(l); at++ {
			for _, to := range shape.Next(l, at) {
				if !slices.Contains(m.order, to) {
					t.Errorf("Next(%v, %d): %d is no place of an instruction", l, at, to)
				}
			}
		}
	}
}

// 5.2: the maps that a list names, in their order, each once; second slots are passed over.
func TestMaps(t *testing.T) {
	for _, c := range []struct {
		text string
		want []int
	}{
		{"exit", nil},
		{"r1 = 7 ll;exit", nil},
		{"r1 = map 7 ll;exit", []int{7}},
		{"r1 = map 0 ll;exit", []int{0}},
		{"r1 = map 7 ll;r2 = map 3 ll;r3 = map 5 ll;exit", []int{7, 3, 5}},
		{"r1 = map 7 ll;r2 = map 3 ll;r3 = map 7 ll;r4 = map 3 ll;r5 = map 1 ll;exit", []int{7, 3, 1}},
		{"r1 = map 7 ll;r2 = map 7 ll;exit", []int{7}},
		{"exit;r1 = map 7 ll;exit", []int{7}},
		{"r1 = 9 ll;r1 = map 2147483647 ll;r1 = 4 ll;exit", []int{2147483647}},
		{"", nil},
	} {
		wantMaps(t, slots(t, c.text), c.want...)
	}
}

// 5.2: Maps of lists that Check refuses tells them too.
func TestMapsOfNoProgram(t *testing.T) {
	named := func(n int) api.Insn { return api.Insn{Op: 24, Src: 1, Imm: n} }
	for _, c := range []struct {
		l    []api.Insn
		want []int
	}{
		{nil, nil},
		{[]api.Insn{named(3)}, []int{3}},
		{[]api.Insn{named(3), named(4)}, []int{3}}, // the second slot looks like a first one
		{[]api.Insn{named(3), named(4), named(5)}, []int{3, 5}},
		{[]api.Insn{named(3), named(4), exit, named(5), {}}, []int{3, 5}},
		{[]api.Insn{{Op: 24}, named(4), named(5)}, []int{5}},
		{[]api.Insn{{Op: 24, Src: 2}, named(4), named(4)}, []int{4}},
		{[]api.Insn{{Op: 24, Src: 2, Imm: 1}, {}, named(5), {Imm: 9}}, []int{5}},
		{[]api.Insn{{Op: 1}, named(3), {Op: 1}}, []int{3}},
		{[]api.Insn{named(-1), {}, named(-2), {}, named(-1), {}}, []int{-1, -2}},
		{[]api.Insn{named(math.MaxInt), {}, named(math.MinInt), {}}, []int{math.MaxInt, math.MinInt}},
		{[]api.Insn{{Op: 24, Dst: 10, Src: 1, Off: 7, Imm: 3}, {}}, []int{3}},
		{[]api.Insn{{Op: 280, Src: 1, Imm: 3}, {}}, nil},
		{[]api.Insn{{Op: 183, Src: 1, Imm: 3}, {}}, nil},
		{[]api.Insn{{Op: 24, Src: 17, Imm: 3}, {}}, nil},
	} {
		wantMaps(t, c.l, c.want...)
	}
}

// 5.2: Maps of a long list ends, and tells each map once.
func TestMapsOfManySlots(t *testing.T) {
	const n = 100000
	l := make([]api.Insn, 0, 4*n)
	want := make([]int, n)
	for k := range 2 * n {
		l = append(l, api.Insn{Op: 24, Src: 1, Imm: k % n}, api.Insn{})
		want[k%n] = k % n
	}
	if got := shape.Maps(l); !slices.Equal(got, want) {
		t.Errorf("%d maps; want %d", len(got), n)
	}
}

// 5.2: the slots that are reached from the first place on.
func TestReaches(t *testing.T) {
	for _, c := range []struct{ text, want string }{
		{"exit", "1"},
		{"goto -1", "1"},
		{"r0 = 1;exit", "11"},
		{"exit;exit", "10"},
		{"r1 = 7 ll;exit", "111"},
		{"exit;r1 = 7 ll;exit", "1000"},
		{"goto +2;r1 = 7 ll;exit", "1001"},
		{"goto +1;exit;r1 = map 7 ll;goto -4", "11111"},
		{"if r1 == 0 goto +1;exit;r0 = 1;exit", "1111"},
		{"if r1 == 0 goto +1;exit;exit;r0 = 1;exit", "11100"},
		{"r0 = 1;if r1 == 0 goto -2;goto -3;exit", "1110"},
		{"goto +1;goto -1;goto -1", "101"},
		{"goto +1;goto +1;goto -2;exit", "1111"},
		{"goto +2;r0 = 1;exit;if w1 != w2 goto -3;exit", "11111"},
		{"call 1;goto +0;goto +0;exit;call 2;exit", "111100"},
	} {
		wantReaches(t, slots(t, c.text), c.want)
	}
}

// 5.2: of what Check refuses no slot is reached.
func TestReachesOfNoProgram(t *testing.T) {
	for _, c := range []struct {
		l    []api.Insn
		want string
	}{
		{nil, ""},
		{slots(t, "r0 = 2"), "0"},
		{slots(t, "r0 = 2;r10 = 2;exit"), "000"},
		{slots(t, "exit;goto +5"), "00"},
		{[]api.Insn{exit, {Op: 24}}, "00"},
		{[]api.Insn{{Op: 24}, {Op: 24}, exit}, "000"},
	} {
		wantReaches(t, c.l, c.want)
	}
}

// 5.2: Reaches of drawn lists tells what chapter 4's lines tell.
func TestReachesAsTheLinesTell(t *testing.T) {
	draw := draws()
	for range 10000 {
		l := drawProgram(draw)
		m, _, _ := read(l)
		m.count = len(l)
		if got, want := shape.Reaches(l), m.reaches(); !slices.Equal(got, want) {
			t.Errorf("Reaches(%v): %v; want %v", l, got, want)
		}
	}
}

// 5.2: Maps of drawn lists tells the maps that chapter 4's lines name.
func TestMapsAsTheLinesTell(t *testing.T) {
	draw := draws()
	for range 5000 {
		l := drawProgram(draw)
		for at := range l {
			if l[at].Op == 24 && l[at].Src == 1 {
				l[at].Imm = int(draw() % 4)
			}
		}
		m, _, e := read(l)
		if e != api.OK {
			continue
		}
		var want []int
		for _, at := range m.order {
			if strings.Contains(m.lines[at], " map ") && !slices.Contains(want, l[at].Imm) {
				want = append(want, l[at].Imm)
			}
		}
		wantMaps(t, l, want...)
	}
}
