package asm_test

import (
	"regexp"
	"strconv"
	"strings"

	"portcullis/api"
)

// pattern is a form as a regular expression.
type pattern struct {
	form form
	re   *regexp.Regexp
}

// oracle tells by regular expressions for which slots a line stands.
type oracle struct {
	byBlanks    map[int][]pattern
	number, set *regexp.Regexp
}

func newOracle() oracle {
	o := oracle{
		byBlanks: map[int][]pattern{},
		number:   regexp.MustCompile(`^r(10|[0-9]) = (0|[1-9][0-9]*) ll$`),
		set:      regexp.MustCompile(`^r(10|[0-9]) = map (0|-?[1-9][0-9]*) ll$`),
	}
	for _, f := range forms() {
		s := regexp.QuoteMeta(f.text)
		s = strings.Replace(s, "D", "(?P<dst>10|[0-9])", 1)
		s = strings.ReplaceAll(s, "D", "(?:10|[0-9])")
		s = strings.ReplaceAll(s, "S", "(?P<src>10|[0-9])")
		s = strings.ReplaceAll(s, "I", "(?P<imm>0|-?[1-9][0-9]*)")
		s = strings.ReplaceAll(s, "O", " (?P<sign>[+-]) (?P<off>0|[1-9][0-9]*)")
		s = strings.ReplaceAll(s, "G", "(?P<sign>[+-])(?P<off>0|[1-9][0-9]*)")
		blanks := strings.Count(strings.ReplaceAll(f.text, "O", " + 0"), " ")
		o.byBlanks[blanks] = append(o.byBlanks[blanks], pattern{f, regexp.MustCompile("^" + s + "$")})
	}
	return o
}

// slots answers the slots of a line; false, if it is none of the table.
func (o oracle) slots(line string) ([]api.Insn, bool) {
	line = strings.Trim(line, " ")
	if line == "" {
		return nil, true
	}
	if m := o.number.FindStringSubmatch(line); m != nil {
		d, _ := strconv.Atoi(m[1])
		n, err := strconv.ParseUint(m[2], 10, 64)
		return []api.Insn{{Op: 24, Dst: d, Imm: int(int32(uint32(n)))}, {Imm: int(int32(uint32(n >> 32)))}}, err == nil
	}
	if m := o.set.FindStringSubmatch(line); m != nil {
		d, _ := strconv.Atoi(m[1])
		n, err := strconv.ParseInt(m[2], 10, 32)
		return []api.Insn{{Op: 24, Dst: d, Src: 1, Imm: int(n)}, {}}, err == nil
	}
	for _, p := range o.byBlanks[strings.Count(line, " ")] {
		if m := p.re.FindStringSubmatch(line); m != nil {
			return p.slot(line, m)
		}
	}
	return nil, false
}

// slot answers the slot of a line in which these groups were found.
func (p pattern) slot(line string, groups []string) ([]api.Insn, bool) {
	fits := true
	get := func(ahead, name string, bits int) int {
		k := p.re.SubexpIndex(name)
		if k < 0 {
			return 0
		}
		n, err := strconv.ParseInt(ahead+groups[k], 10, bits)
		fits = fits && err == nil
		return int(n)
	}
	sign := ""
	if k := p.re.SubexpIndex("sign"); k >= 0 {
		sign = groups[k]
	}
	s, i := p.form.fill(get("", "dst", 8), get("", "src", 8), get(sign, "off", 16), get("", "imm", 32))
	// A line that is told in another way has a register twice that isn't the same, or - ahead of 0.
	return []api.Insn{i}, fits && s == line
}
