package shape_test

import (
	"slices"
	"strconv"
	"strings"
	"testing"

	"portcullis/api"
	"portcullis/asm"
	"portcullis/insn"
	"portcullis/shape"
)

// slots reads the text of a program, of which each line ends at a ; or at its end.
func slots(t *testing.T, text string) []api.Insn {
	t.Helper()
	l, _, e := asm.Read(strings.ReplaceAll(text, ";", "\n"))
	if e != api.OK {
		t.Fatalf("%q: error %d", text, e)
	}
	return l
}

// slot reads the text of one instruction of one slot.
func slot(t *testing.T, text string) api.Insn {
	t.Helper()
	l := slots(t, text)
	if len(l) != 1 {
		t.Fatalf("%q: %d slots", text, len(l))
	}
	return l[0]
}

// wantOne looks at what One tells of i; if it may not be, Check refuses it wherever it stands.
func wantOne(t *testing.T, i api.Insn, want bool) {
	t.Helper()
	if got := shape.One(i); got != want {
		t.Errorf("One(%v): %v; want %v", i, got, want)
	}
	if want {
		return
	}
	wantCheck(t, []api.Insn{i, {}, exit}, 0, api.ErrForm)
	wantCheck(t, []api.Insn{{Op: 183}, i, {}, exit}, 1, api.ErrForm)
}

// wantCheck looks at what Check tells of l.
func wantCheck(t *testing.T, l []api.Insn, at int, want api.Errno) {
	t.Helper()
	if got, e := shape.Check(l); got != at || e != want {
		t.Errorf("Check(%v): place %d, error %d; want place %d, error %d", short(l), got, e, at, want)
	}
}

// wantNext looks at what Next tells of the place at.
func wantNext(t *testing.T, l []api.Insn, at int, want ...int) {
	t.Helper()
	if got := shape.Next(l, at); !slices.Equal(got, want) {
		t.Errorf("Next(%v, %d): %v; want %v", short(l), at, got, want)
	}
}

// wantMaps looks at what Maps tells of l.
func wantMaps(t *testing.T, l []api.Insn, want ...int) {
	t.Helper()
	if got := shape.Maps(l); !slices.Equal(got, want) {
		t.Errorf("Maps(%v): %v; want %v", short(l), got, want)
	}
}

// wantReaches looks at what Reaches tells of l; want has a 1 of each slot that is reached, and a 0 of each other.
func wantReaches(t *testing.T, l []api.Insn, want string) {
	t.Helper()
	got := ""
	for _, r := range shape.Reaches(l) {
		got += map[bool]string{false: "0", true: "1"}[r]
	}
	if got != want {
		t.Errorf("Reaches(%v): %s; want %s", short(l), got, want)
	}
}

// short answers the beginning of l, for what tests tell.
func short(l []api.Insn) []api.Insn { return l[:min(len(l), 40)] }

// exit ends a program.
var exit = api.Insn{Op: 149}

// allowed answers the line of the instruction at the place at and how many slots it has; false, if it may not be. It is told from chapter 4's lines.
func allowed(l []api.Insn, at int) (string, int, bool) {
	s, n, e := asm.Line(l, at)
	if e != api.OK {
		return "", 0, false
	}
	w := strings.Fields(s)
	switch {
	case w[0] == "r10" || w[0] == "w10":
		return "", 0, false
	case strings.HasSuffix(s, " r10 fetch") || strings.HasSuffix(s, " xchg r10"):
		return "", 0, false
	case strings.Contains(s, " map -"):
		return "", 0, false
	case len(w) == 3 && (w[1] == "/=" || w[1] == "%=" || w[1] == "s/=" || w[1] == "s%="):
		return s, n, w[2] != "0"
	case len(w) == 3 && (w[1] == "<<=" || w[1] == ">>=" || w[1] == "s>>="):
		most := map[byte]int{'r': 63, 'w': 31}[s[0]]
		count, err := strconv.Atoi(w[2])
		return s, n, err != nil || count >= 0 && count <= most
	}
	return s, n, true
}

// allowedOne is One as chapter 4's lines tell it.
func allowedOne(i api.Insn) bool {
	l := []api.Insn{i}
	if insn.Wide(i) {
		l = append(l, api.Insn{})
	}
	_, n, ok := allowed(l, 0)
	return ok && n == len(l)
}

// model is a program as the lines of its instructions tell it.
type model struct {
	lines map[int]string // by their places
	order []int          // the places
	count int            // the slots
}

// read answers the model of l, or beside an error the place of what is wrong.
func read(l []api.Insn) (model, int, api.Errno) {
	m := model{lines: map[int]string{}, count: len(l)}
	if len(l) < 1 || len(l) > 4096 {
		return model{}, 0, api.ErrForm
	}
	for at := 0; at < len(l); {
		s, n, ok := allowed(l, at)
		if !ok {
			return model{}, at, api.ErrForm
		}
		m.lines[at] = s
		m.order = append(m.order, at)
		at += n
	}
	for _, at := range m.order {
		if to, ok := m.target(at); ok && m.lines[to] == "" {
			return model{}, at, api.ErrForm
		}
	}
	last := m.order[len(m.order)-1]
	if s := m.lines[last]; s != "exit" && !strings.HasPrefix(s, "goto") {
		return model{}, last, api.ErrForm
	}
	return m, 0, api.OK
}

// target answers where the line at this place says that it goes.
func (m model) target(at int) (int, bool) {
	_, off, ok := strings.Cut(m.lines[at], "goto ")
	if !ok {
		return 0, false
	}
	n, err := strconv.Atoi(off)
	if err != nil {
		panic(err)
	}
	return at + 1 + n, true
}

// next is Next of the model.
func (m model) next(at int) []int {
	s := m.lines[at]
	var out []int
	if s == "" {
		return nil
	}
	if s != "exit" && !strings.HasPrefix(s, "goto") {
		behind := at + 1
		if strings.HasSuffix(s, " ll") {
			behind++
		}
		out = append(out, behind)
	}
	if to, ok := m.target(at); ok {
		out = append(out, to)
	}
	return out
}

// reaches is Reaches of the model: places are added until there are no more.
func (m model) reaches() []bool {
	out := make([]bool, m.count)
	if m.lines == nil {
		return out
	}
	out[0] = true
	for grown := true; grown; {
		grown = false
		for _, at := range m.order {
			if !out[at] {
				continue
			}
			for _, to := range m.next(at) {
				grown = grown || !out[to]
				out[to] = true
			}
		}
	}
	for at, s := range m.lines {
		if strings.HasSuffix(s, " ll") {
			out[at+1] = out[at]
		}
	}
	return out
}

// draws answers a function whose numbers look like chance and are the same at each run.
func draws() func() uint64 {
	seed := uint64(1)
	return func() uint64 {
		seed = seed*6364136223846793005 + 1442695040888963407
		n := seed
		n ^= n >> 32
		n *= 0x9E3779B97F4A7C15
		return n ^ n>>29
	}
}

// drawProgram answers a list of slots of which many are programs, and others nearly.
func drawProgram(draw func() uint64) []api.Insn {
	pieces := [][]api.Insn{
		{{Op: 183, Dst: 1, Imm: 5}},
		{{Op: 24, Dst: 2, Imm: 7}, {Imm: 9}},
		{{Op: 24, Dst: 3, Src: 1, Imm: 4}, {}},
		{{Op: 133, Imm: 1}},
		{{Op: 5}},
		{{Op: 21, Dst: 1}},
		{{Op: 29, Dst: 1, Src: 2}},
		{{Op: 166, Dst: 1, Imm: -3}},
		{exit},
	}
	var l []api.Insn
	first := map[int]int{} // places by their numbers
	for n := draw() % 12; n > 0; n-- {
		first[len(first)] = len(l)
		l = append(l, pieces[draw()%uint64(len(pieces))]...)
	}
	first[len(first)] = len(l)
	l = append(l, pieces[8-4*(draw()%2)]...)
	for at := range l {
		if c := l[at].Op % 8; c != 5 && c != 6 || l[at].Op == 133 || l[at].Op == 149 {
			continue
		}
		l[at].Off = first[int(draw()%uint64(len(first)))] - at - 1
		if draw()%15 == 0 {
			l[at].Off += int(draw()%7) - 3
		}
	}
	if draw()%5 == 0 {
		l[draw()%uint64(len(l))] = api.Insn{Op: int(draw() % 256), Off: int(draw() % 3), Imm: int(draw() % 3)}
	}
	if draw()%16 == 0 {
		l = l[:len(l)-1]
	}
	return l
}
