package btf_test

import (
	"encoding/binary"
	"regexp"
	"slices"
	"strings"
	"testing"

	"portcullis/api"
	"portcullis/btf"
)

// isName is what the chapter says of names.
var isName = regexp.MustCompile(`^([A-Za-z_][A-Za-z_0-9]{0,127})?\z`)

// bad is what the model gives up with.
type bad struct{}

// must gives up, unless ok.
func must(ok bool) {
	if !ok {
		panic(bad{})
	}
}

// model takes a blob apart number by number, as the chapter's words go, and gives up at the first thing that isn't so.
type model struct {
	s               string
	at, end         int // the types that are not told yet
	names, namesEnd int
}

// told is Parse by the model; false, if it gives up.
func told(s string) (l []api.BtfType, ok bool) {
	defer func() {
		if r := recover(); r != nil {
			_ = r.(bad)
			l, ok = nil, false
		}
	}()
	m := &model{s: s}
	must(strings.HasPrefix(s, "\x9f\xeb\x01\x00") && m.number(4) == 24)
	m.at, m.names = 24+m.number(8), 24+m.number(16)
	m.end, m.namesEnd = m.at+m.number(12), m.names+m.number(20)
	must(m.end <= len(s) && m.namesEnd <= len(s) && m.names < m.namesEnd && s[m.names] == 0)
	for m.at < m.end {
		l = append(l, m.one())
		must(len(l) <= 1024)
	}
	return l, true
}

// number answers the number at a byte.
func (m *model) number(at int) int {
	must(at+4 <= len(m.s))
	return int(binary.LittleEndian.Uint32([]byte(m.s[at : at+4])))
}

// next answers the types' next number.
func (m *model) next() int {
	must(m.at+4 <= m.end)
	m.at += 4
	return m.number(m.at - 4)
}

// bounded is next of a Type, a Count, an Off or a struct's Size.
func (m *model) bounded() int {
	n := m.next()
	must(n < 1<<31)
	return n
}

// name is next of where a name begins.
func (m *model) name() string {
	from := m.names + m.next()
	must(from < m.namesEnd)
	all := m.s[from:m.namesEnd]
	must(strings.Contains(all, "\x00"))
	text := all[:strings.IndexByte(all, 0)]
	must(isName.MatchString(text))
	return text
}

// one answers the next type.
func (m *model) one() api.BtfType {
	t := api.BtfType{Name: m.name()}
	word := m.next()
	parts := word & 0xffff
	must((word-parts)%(1<<24) == 0)
	t.Kind = word / (1 << 24)
	must(parts == 0 || t.Kind == api.BtfStruct && parts <= 1024)
	switch t.Kind {
	case api.BtfInt:
		t.Size = m.next()
		must(t.Name != "" && m.next() == 8*t.Size && slices.Contains([]int{1, 2, 4, 8}, t.Size))
	case api.BtfPtr:
		t.Type = m.bounded()
		must(t.Name == "")
	case api.BtfTypedef:
		t.Type = m.bounded()
		must(t.Name != "")
	case api.BtfArray:
		must(t.Name == "" && m.next() == 0)
		t.Type = m.bounded()
		must(m.next() == 0)
		t.Count = m.bounded()
	case api.BtfStruct:
		t.Size = m.bounded()
	default:
		must(false)
	}
	for range parts {
		t.Members = append(t.Members, api.BtfMember{Name: m.name(), Type: m.bounded(), Off: m.bounded()})
	}
	return t
}

// wantTold holds what Parse tells of s against the model; what is told has a blob, of which the same is read (6.2).
func wantTold(t *testing.T, s string) bool {
	t.Helper()
	want, ok := told(s)
	if !ok {
		wantNoParse(t, s)
		return false
	}
	wantParse(t, s, want)
	b, e := btf.Build(want)
	if e != api.OK {
		t.Errorf("Build(%v): error %d", short(want), e)
	}
	wantParse(t, b, want)
	return true
}

// 6.1: a blob in which one byte is another one, for each byte and each value, tells what the model tells.
func TestParseEachByte(t *testing.T) {
	s := build(t, sample()) + "\x00behind\x00"
	taken := 0
	for at := range len(s) {
		for n := range 256 {
			if wantTold(t, s[:at]+string([]byte{byte(n)})+s[at+1:]) {
				taken++
			}
		}
	}
	if taken < 4000 || taken == 256*len(s) {
		t.Errorf("%d of %d blobs are taken", taken, 256*len(s))
	}
}

// 6.1: blobs of which some numbers are drawn anew.
func TestParseDrawnNumbers(t *testing.T) {
	draw := draws()
	s := build(t, sample())
	few := []uint32{0, 1, 2, 3, 4, 5, 8, 12, 16, 24, 32, 64, 88, 100, top, top + 1, 1<<32 - 1, 1 << 24, 2 << 24, 3 << 24, 4 << 24, 4<<24 + 1, 4<<24 + 2, 8 << 24, 8<<24 + 1, 1<<24 + 1<<16}
	taken := 0
	for range 60000 {
		b := s
		for range 1 + draw()%3 {
			at := 8 + 4*int(draw()%uint64((len(s)-8)/4))
			b = b[:at] + numbers(few[draw()%uint64(len(few))]) + b[at+4:]
		}
		if wantTold(t, b) {
			taken++
		}
	}
	if taken < 1000 || taken > 59000 {
		t.Errorf("%d of 60000 blobs are taken", taken)
	}
}

// 6.1: blobs of which bytes were taken out, or in which some were laid twice.
func TestParseCutBytes(t *testing.T) {
	s := build(t, sample())
	for from := range len(s) {
		for end := from + 1; end <= len(s) && end <= from+20; end++ {
			wantTold(t, s[:from]+s[end:])
			wantTold(t, s[:end]+s[from:])
		}
	}
}

// 6.1, R1: bytes behind a good head that are drawn.
func TestParseDrawnBytes(t *testing.T) {
	draw := draws()
	for range 20000 {
		b := make([]byte, draw()%80)
		for k := range b {
			if draw()%3 == 0 {
				b[k] = byte(draw() % 9)
			}
		}
		n := uint32(draw() % 80)
		wantTold(t, headed(uint32(draw()%4), n, uint32(draw()%80), uint32(draw()%80), string(b)))
		wantTold(t, string(b))
	}
}
