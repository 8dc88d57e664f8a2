package asm

import (
	"slices"
	"strconv"
	"strings"

	"portcullis/api"
	"portcullis/insn"
)

// lineOf answers the line of the instruction that these one or two slots are; none, if they are none of the table.
func lineOf(slots []api.Insn) string {
	// A number that has no room in its field could not be read back into it.
	if _, err := insn.Encode(slots); err != api.OK {
		return ""
	}
	i := slots[0]
	if i.Dst > regLast || i.Src > regLast {
		return ""
	}
	switch insn.Class(i) {
	case classLd:
		return wideLine(slots)
	case classLdx:
		return loadLine(i)
	case classSt, classStx:
		return storeLine(i)
	case classAlu, classAlu64:
		return aluLine(i)
	}
	return jumpLine(i)
}

// said answers the words with a blank between each two; none, if one of the words is none.
func said(words ...string) string {
	if slices.Contains(words, "") {
		return ""
	}
	return strings.Join(words, string(blank))
}

// wideLine is lineOf of slots whose first one is of class LD.
func wideLine(slots []api.Insn) string {
	if len(slots) != 2 {
		return ""
	}
	a, b := slots[0], slots[1]
	if a.Off != 0 || b != (api.Insn{Imm: b.Imm}) {
		return ""
	}
	d := register(whole, a.Dst)
	switch {
	case a.Src == wideNumber:
		return said(d, "=", strconv.FormatUint(insn.Imm64(a, b), 10), "ll")
	case a.Src == wideMap && b.Imm == 0:
		return said(d, "=", "map", strconv.Itoa(a.Imm), "ll")
	}
	return ""
}

// loadLine is lineOf of an LDX.
func loadLine(i api.Insn) string {
	if i.Imm != 0 {
		return ""
	}
	return said(register(whole, i.Dst), "=", place(i.Op&modePart, i, i.Src))
}

// storeLine is lineOf of an ST or an STX.
func storeLine(i api.Insn) string {
	p := place(modePlain, i, i.Dst)
	switch {
	case i.Op&modePart == modeLock && insn.Class(i) == classStx && locked(i.Op&sizePart):
		return said("lock", p, lockWords(i))
	case i.Op&modePart != modePlain:
		return ""
	}
	return said(p, "=", second(i, insn.Class(i) == classStx, whole))
}

// lockWords answers what stands behind the place of an instruction that reads and writes in one go.
func lockWords(i api.Insn) string {
	s := register(whole, i.Src)
	for _, k := range locks {
		switch {
		case i.Imm == k.imm:
			return said(k.name, s)
		case i.Imm == k.imm+1 && k.fetch:
			return said(k.name, s, "fetch")
		}
	}
	return ""
}

// aluLine is lineOf of an ALU, of 32 or 64 bits.
func aluLine(i api.Insn) string {
	class := insn.Class(i)
	d := register(letterOf(class), i.Dst)
	switch {
	case i == (api.Insn{Op: kindMinus | class, Dst: i.Dst}):
		return said(d, "=", "-"+d)
	case i.Op == kindMov|fromSrc|class && i.Imm == 0 && extends(class, i.Off):
		return said(d, "=", signOf(i.Off)+register(letterOf(class), i.Src))
	}
	for _, o := range operators {
		if o.kind == i.Op&kindPart && o.off == i.Off {
			return said(d, o.name, second(i, i.Op&fromSrc != 0, letterOf(class)))
		}
	}
	return turnLine(i)
}

// turnLine is lineOf of an ALU that turns bytes round.
func turnLine(i api.Insn) string {
	d := register(whole, i.Dst)
	for _, t := range turns {
		for _, bits := range turnBits {
			if i == (api.Insn{Op: t.op, Dst: i.Dst, Imm: bits}) {
				return said(d, "=", t.name+strconv.Itoa(bits), d)
			}
		}
	}
	return ""
}

// jumpLine is lineOf of a JMP or a JMP32.
func jumpLine(i api.Insn) string {
	switch i {
	case api.Insn{Op: opGoto, Off: i.Off}:
		return said("goto", further(i.Off))
	case api.Insn{Op: opCall, Imm: i.Imm}:
		return said("call", strconv.Itoa(i.Imm))
	case api.Insn{Op: opExit}:
		return "exit"
	}
	letter := letterOf(insn.Class(i))
	for _, t := range tests {
		if t.kind == i.Op&kindPart {
			return said("if", register(letter, i.Dst), t.name, second(i, i.Op&fromSrc != 0, letter), "goto", further(i.Off))
		}
	}
	return ""
}

// second answers the second of the two that an instruction works on, register Src or Imm; none, if the other one isn't 0.
func second(i api.Insn, src bool, letter string) string {
	switch {
	case src && i.Imm == 0:
		return register(letter, i.Src)
	case !src && i.Src == 0:
		return strconv.Itoa(i.Imm)
	}
	return ""
}

// place answers the bytes that i moves in this mode, Off from register base on; none, if there is no such mode of its size.
func place(mode int, i api.Insn, base int) string {
	for _, m := range moves {
		if m.mode == mode && m.size == i.Op&sizePart {
			sign, size := parts(i.Off)
			return said("*("+m.name, "*)("+register(whole, base), sign, size+")")
		}
	}
	return ""
}

// further answers how far a jump goes.
func further(off int) string {
	sign, size := parts(off)
	return sign + size
}

// parts answers the sign of an Off and its size; + of 0.
func parts(off int) (string, string) {
	if off < 0 {
		return "-", strconv.Itoa(-off)
	}
	return "+", strconv.Itoa(off)
}

// register answers the name of a register, or of its lower 32 bits.
func register(letter string, n int) string { return letter + strconv.Itoa(n) }

// signOf answers what stands ahead of a register of whose lowest bits the sign is taken along.
func signOf(bits int) string { return "(s" + strconv.Itoa(bits) + ")" }
