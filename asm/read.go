package asm

import (
	"math"
	"strconv"
	"strings"

	"portcullis/api"
	"portcullis/insn"
)

// reader reads the words of one line. A word that can't be read leaves a mark, so that each part of a line is read without asking after the one ahead of it.
type reader struct {
	wrong bool // the line is none of the table
}

// readLine answers the slots that a line stands for, none of a line without a word; false, if it is none of the table.
func readLine(line string) ([]api.Insn, bool) {
	w, ok := words(line)
	if !ok || len(w) == 0 {
		return nil, ok
	}
	r := &reader{}
	slots := r.slots(w)
	if r.wrong {
		return nil, false
	}
	return slots, true
}

// slots reads a whole line of one word or more.
func (r *reader) slots(w []string) []api.Insn {
	if w[len(w)-1] == "ll" {
		wide := r.wide(w)
		return wide[:]
	}
	return []api.Insn{r.one(w)}
}

// one reads a line that stands for one slot.
func (r *reader) one(w []string) api.Insn {
	switch first, n := w[0], len(w); {
	case first == "exit" && n == 1:
		return api.Insn{Op: opExit}
	case first == "call" && n == 2:
		return api.Insn{Op: opCall, Imm: r.imm(w[1])}
	case first == "goto" && n == 2:
		return api.Insn{Op: opGoto, Off: r.further(w[1])}
	case first == "if" && n == 6:
		return r.jump(w)
	case first == "lock" && (n == 7 || n == 8):
		return r.lock(w)
	case n == 3:
		return r.alu(w)
	case n == 4:
		return r.turn(w)
	case n == 6 && w[1] == "=":
		return r.load(w)
	case n == 6:
		return r.store(w)
	}
	r.wrong = true
	return api.Insn{}
}

// wide reads a line that ends with ll.
func (r *reader) wide(w []string) [2]api.Insn {
	if len(w) < 4 || len(w) > 5 || w[1] != "=" {
		r.wrong = true
		return [2]api.Insn{}
	}
	d := r.register(whole, w[0])
	if len(w) == 4 {
		n, ok := digits(w[2], math.MaxUint64)
		r.want(ok)
		return insn.Lay64(d, n)
	}
	r.want(w[2] == "map")
	slots := insn.Lay64(d, 0)
	slots[0].Src = wideMap
	slots[0].Imm = r.imm(w[3])
	return slots
}

// load reads the line of an LDX.
func (r *reader) load(w []string) api.Insn {
	m, base, off := r.place(w[2:])
	return api.Insn{Op: m.mode | m.size | classLdx, Dst: r.register(whole, w[0]), Src: base, Off: off}
}

// store reads the line of an ST or an STX that only writes.
func (r *reader) store(w []string) api.Insn {
	m, base, off := r.place(w)
	r.want(m.mode == modePlain && w[4] == "=")
	i := api.Insn{Op: m.mode | m.size | classSt, Dst: base, Off: off}
	if r.second(&i, whole, w[5]) {
		i.Op = m.mode | m.size | classStx
	}
	return i
}

// lock reads the line of an STX that reads and writes in one go.
func (r *reader) lock(w []string) api.Insn {
	m, base, off := r.place(w[1:])
	r.want(m.mode == modePlain && locked(m.size))
	i := api.Insn{Op: modeLock | m.size | classStx, Dst: base, Src: r.register(whole, w[6]), Off: off}
	fetch := len(w) == 8
	r.want(!fetch || w[7] == "fetch")
	for _, k := range locks {
		if k.name != w[5] || fetch && !k.fetch {
			continue
		}
		i.Imm = k.imm
		if fetch {
			i.Imm++
		}
		return i
	}
	r.wrong = true
	return i
}

// alu reads a line of three words.
func (r *reader) alu(w []string) api.Insn {
	class := classAlu64
	if strings.HasPrefix(w[0], lower) {
		class = classAlu
	}
	letter := letterOf(class)
	i := api.Insn{Op: class, Dst: r.register(letter, w[0])}
	switch {
	case w[1] == "=" && w[2] == "-"+w[0]:
		i.Op |= kindMinus
		return i
	case w[1] == "=" && strings.HasPrefix(w[2], "("):
		return r.extend(i, w[2])
	}
	for _, o := range operators {
		if o.name == w[1] {
			i.Op |= o.kind
			i.Off = o.off
			if r.second(&i, letter, w[2]) {
				i.Op |= fromSrc
			}
			return i
		}
	}
	r.wrong = true
	return i
}

// extend reads the last word of a mov that takes a sign along, of which class and Dst are known.
func (r *reader) extend(i api.Insn, word string) api.Insn {
	class := i.Op
	i.Op |= kindMov | fromSrc
	for _, bits := range [3]int{8, 16, 32} {
		if name, ok := strings.CutPrefix(word, signOf(bits)); ok && extends(class, bits) {
			i.Off = bits
			i.Src = r.register(letterOf(class), name)
			return i
		}
	}
	r.wrong = true
	return i
}

// turn reads a line of four words.
func (r *reader) turn(w []string) api.Insn {
	d := r.register(whole, w[0])
	r.want(w[1] == "=" && w[3] == w[0])
	for _, t := range turns {
		for _, bits := range turnBits {
			if w[2] == t.name+strconv.Itoa(bits) {
				return api.Insn{Op: t.op, Dst: d, Imm: bits}
			}
		}
	}
	r.wrong = true
	return api.Insn{}
}

// jump reads the line of a jump that looks at a test.
func (r *reader) jump(w []string) api.Insn {
	class := classJmp
	if strings.HasPrefix(w[1], lower) {
		class = classJmp32
	}
	letter := letterOf(class)
	r.want(w[4] == "goto")
	i := api.Insn{Op: class, Dst: r.register(letter, w[1]), Off: r.further(w[5])}
	for _, t := range tests {
		if t.name == w[2] {
			i.Op |= t.kind
			if r.second(&i, letter, w[3]) {
				i.Op |= fromSrc
			}
			return i
		}
	}
	r.wrong = true
	return i
}

// second reads the second of the two that an instruction works on into Src or Imm, and answers whether it is a register.
func (r *reader) second(i *api.Insn, letter, word string) bool {
	if strings.HasPrefix(word, letter) {
		i.Src = r.register(letter, word)
		return true
	}
	i.Imm = r.imm(word)
	return false
}

// place reads four words: how bytes are moved, the register from which on, and the Off.
func (r *reader) place(w []string) (move, int, int) {
	name, here := strings.CutPrefix(w[1], "*)(")
	size, closed := strings.CutSuffix(w[3], ")")
	r.want(here && closed && (w[2] == "+" || w[2] == "-"))
	base := r.register(whole, name)
	off := r.number(w[2] == "-", size, 16)
	for _, m := range moves {
		if w[0] == "*("+m.name {
			return m, base, off
		}
	}
	r.wrong = true
	return move{}, base, off
}

// register reads the name of a register that begins with this letter.
func (r *reader) register(letter, word string) int {
	name, ok := strings.CutPrefix(word, letter)
	n, is := digits(name, regLast)
	r.want(ok && is)
	return int(n)
}

// further reads how far a jump goes.
func (r *reader) further(word string) int {
	size, below := strings.CutPrefix(word, "-")
	if !below {
		var above bool
		size, above = strings.CutPrefix(word, "+")
		r.want(above)
	}
	return r.number(below, size, 16)
}

// imm reads an Imm.
func (r *reader) imm(word string) int {
	size, below := strings.CutPrefix(word, "-")
	return r.number(below, size, 32)
}

// number reads the size of a number of this many bits.
func (r *reader) number(below bool, size string, bits int) int {
	n, ok := signed(below, size, bits)
	r.want(ok)
	return n
}

// want marks the line, unless ok.
func (r *reader) want(ok bool) {
	if !ok {
		r.wrong = true
	}
}
