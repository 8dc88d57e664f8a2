package asm_test

import (
	"fmt"
	"slices"
	"strings"
	"testing"

	"portcullis/api"
	"portcullis/asm"
)

// 4.2: each row of the table is read, with a byte 10 behind it and without.
func TestReadLiterals(t *testing.T) {
	for _, c := range literals() {
		wantRead(t, c.text, c.slots)
		wantRead(t, c.text+"\n", c.slots)
	}
	s, l := all(literals())
	wantRead(t, s, l)
	wantRead(t, strings.TrimSuffix(s, "\n"), l)
}

// 4.2: all instructions, with their numbers at their fields' edges.
func TestReadEdges(t *testing.T) {
	for _, c := range edges() {
		wantRead(t, c.text, c.slots)
	}
	s, l := all(edges())
	wantRead(t, s, l)
}

// 4.2: lines without a word say nothing, and there may be nothing else.
func TestReadNothing(t *testing.T) {
	for _, s := range []string{"", "\n", "\n\n\n", " ", "   \n", "\n  \n \n    "} {
		wantRead(t, s, nil)
	}
	two := []api.Insn{{Op: 183, Dst: 1, Imm: 5}, {Op: 149}}
	for _, s := range []string{"r1 = 5\nexit", "\n\nr1 = 5\n\n\nexit\n\n", "   \nr1 = 5\n \nexit\n  ", "r1 = 5\nexit\n"} {
		wantRead(t, s, two)
	}
}

// 4.2: blanks ahead of the first word and behind the last one play no part; no other sign is a blank.
func TestBlanksAround(t *testing.T) {
	for _, c := range literals() {
		for _, s := range []string{" " + c.text, c.text + " ", "   " + c.text + "     ", strings.Repeat(" ", 1000) + c.text + strings.Repeat(" ", 1000)} {
			wantRead(t, s, c.slots)
			wantRead(t, s+"\n", c.slots)
		}
		for _, sign := range []string{"\t", "\r", "\v", "\f", "\x00", "\u00a0", "\u2003", "\u3000", "\u0085", "\ufeff", "\x85", "\xa0"} {
			wantWrong(t, sign+c.text, 1)
			wantWrong(t, c.text+sign, 1)
			wantWrong(t, c.text+sign+"\n", 1)
			wantWrong(t, strings.Replace(c.text+" ", " ", sign, 1), 1)
		}
	}
	wantWrong(t, "\t", 1)
	wantWrong(t, "\r\n", 1)
}

// 4.2: between words stands one blank, neither two nor none.
func TestOneBlankBetweenWords(t *testing.T) {
	for _, c := range literals() {
		w := strings.Split(c.text, " ")
		for k := 1; k < len(w); k++ {
			head, tail := strings.Join(w[:k], " "), strings.Join(w[k:], " ")
			wantWrong(t, head+"  "+tail, 1)
			wantWrong(t, head+"    "+tail, 1)
			wantWrong(t, head+tail, 1)
			wantWrong(t, head+"\t"+tail, 1)
		}
	}
}

// 4.2: a word too many or too few, or one that stands twice, makes another line, or none.
func TestWordsTooManyAndTooFew(t *testing.T) {
	o := newOracle()
	for _, c := range literals() {
		w := strings.Split(c.text, " ")
		for k := range w {
			wantAs(t, o, strings.Join(slices.Delete(slices.Clone(w), k, k+1), " "))
			wantAs(t, o, strings.Join(slices.Insert(slices.Clone(w), k, w[k]), " "))
			for _, more := range []string{"x", "exit", "0", "r1", "ll", "fetch", "lock", "+", "="} {
				wantAs(t, o, strings.Join(slices.Insert(slices.Clone(w), k, more), " "))
				wantAs(t, o, c.text+" "+more)
			}
		}
	}
	wantWrong(t, "r1 =", 1)
	wantWrong(t, "r1 5", 1)
	wantWrong(t, "= 5", 1)
	wantWrong(t, "r1 = 5 5", 1)
	wantWrong(t, "exit exit", 1)
	wantWrong(t, "call", 1)
	wantWrong(t, "lock *(u64 *)(r1 + 8) += r2 fetch fetch", 1)
	wantWrong(t, "*(u64 *)(r1 + 8) += r2", 1)
	wantWrong(t, "if r1 == 0 goto", 1)
	wantWrong(t, "r1 = map ll", 1)
}

// wantAs looks whether Read tells of a line what the oracle does.
func wantAs(t *testing.T, o oracle, s string) {
	t.Helper()
	if l, ok := o.slots(s); ok {
		wantRead(t, s, l)
	} else {
		wantWrong(t, s, 1)
	}
}

// 4.2: lines that are one sign away from the table's are read as the table says, or not at all.
func TestLinesOneSignAway(t *testing.T) {
	o := newOracle()
	signs := []string{" ", "0", "1", "9", "r", "w", "s", "u", "-", "+", "=", "(", ")", "*", "<", ">", "/", "&", "l", "x", "\t", "é", "\xff"}
	for _, c := range literals() {
		for at := range len(c.text) + 1 {
			head, tail := c.text[:at], c.text[at:]
			for _, sign := range signs {
				wantAs(t, o, head+sign+tail)
			}
			if tail == "" {
				continue
			}
			wantAs(t, o, head+tail[1:])
			for _, sign := range signs {
				wantAs(t, o, head+sign+tail[1:])
			}
			if len(tail) > 1 {
				wantAs(t, o, head+tail[1:2]+tail[:1]+tail[2:])
			}
		}
	}
}

// 4.2: lines whose words are drawn from the table's lines.
func TestLinesOfDrawnWords(t *testing.T) {
	o := newOracle()
	draw := draws()
	lines := edges()
	for range 20000 {
		w := strings.Split(lines[draw()%uint64(len(lines))].text, " ")
		for range 1 + draw()%2 {
			other := strings.Split(lines[draw()%uint64(len(lines))].text, " ")
			w[draw()%uint64(len(w))] = other[draw()%uint64(len(other))]
		}
		wantAs(t, o, strings.Join(w, " "))
	}
}

// 4.2: numbers have no 0 ahead, no + and no -0, wherever a number stands.
func TestNumbersWithSignsAhead(t *testing.T) {
	for _, place := range []string{"r1 = %s", "w1 += %s", "r1 s/= %s", "*(u32 *)(r1 + 0) = %s", "if r1 == %s goto +1", "if w1 s< %s goto +1", "call %s", "r1 = map %s ll", "r1 = %s ll"} {
		wantGood(t, fmt.Sprintf(place, "0"))
		wantGood(t, fmt.Sprintf(place, "7"))
		wantGood(t, fmt.Sprintf(place, "2147483647"))
		for _, n := range []string{"05", "00", "007", "-0", "-00", "-05", "+5", "+0", "+-5", "-+5", "--5", "-", "+", "5-", "5.", "5.0", "0x5", "5e1", "1_000", "5,", "0b1", "0o7", "five", "", " 5", "٥", "５", "½", "5\x00", "5\xff", "- 5", "2147483648000000000000000000000000000000"} {
			wantWrong(t, fmt.Sprintf(place, n)+"\n", 1)
		}
	}
	for _, place := range []string{"goto %s", "if r1 == 0 goto %s", "if w1 & w2 goto %s"} {
		for _, n := range []string{"+0", "+1", "-1", "+32767", "-32768"} {
			wantGood(t, fmt.Sprintf(place, n))
		}
		for _, n := range []string{"0", "1", "3", "-0", "+00", "+03", "-03", "++3", "+-3", "-+3", "--3", "+", "-", "", "+ 3", "- 3", "3+", "+32768", "-32769", "+65536", "+4294967296", "-18446744073709551616", "+18446744073709551616", "+3.", "+0x3", "+３"} {
			wantWrong(t, fmt.Sprintf(place, n)+"\n", 1)
		}
	}
	for _, place := range []string{"r1 = *(u32 *)(r2 %s)", "*(u8 *)(r1 %s) = 1", "*(u64 *)(r1 %s) = r2", "lock *(u32 *)(r1 %s) += r2", "lock *(u64 *)(r1 %s) xchg r2"} {
		for _, n := range []string{"+ 0", "+ 1", "- 1", "+ 32767", "- 32768"} {
			wantGood(t, fmt.Sprintf(place, n))
		}
		for _, n := range []string{"- 0", "+ 00", "+ 01", "- 01", "+ -1", "- -1", "+ +1", "- +1", "+1", "-1", "1", "* 1", "+", "-", "", "+  1", "+ 32768", "- 32769", "+ 65536", "- 65537", "+ 18446744073709551617", "+ 1 + 1", "+ 1)", "+ r3", "+ １"} {
			wantWrong(t, fmt.Sprintf(place, n)+"\n", 1)
		}
	}
}

// wantGood looks whether s is one line that Line tells again.
func wantGood(t *testing.T, s string) {
	t.Helper()
	l, n, e := asm.Read(s)
	if len(l) == 0 || n != 0 || e != api.OK {
		t.Errorf("Read(%q): %v, line %d, error %d", s, l, n, e)
		return
	}
	if got, slots, e := asm.Line(l, 0); got != s || slots != len(l) || e != api.OK {
		t.Errorf("Line of Read(%q): %q, %d slots of %d, error %d", s, got, slots, len(l), e)
	}
}

// 4.2: each field's least and greatest number, and those past it on either side.
func TestFieldsAtTheirEdges(t *testing.T) {
	for _, place := range []string{"r1 = %s", "w1 ^= %s", "*(u16 *)(r1 - 1) = %s", "if r1 s<= %s goto +1", "call %s", "r1 = map %s ll"} {
		for _, n := range []string{"-2147483648", "-2147483647", "2147483646", "2147483647"} {
			wantGood(t, fmt.Sprintf(place, n))
		}
		for _, n := range []string{"-2147483649", "2147483648", "4294967295", "4294967296", "4294967301", "-4294967296", "9223372036854775807", "9223372036854775808", "-9223372036854775808", "18446744073709551615", "18446744073709551616", "18446744073709551621", "-18446744073709551621", "99999999999999999999"} {
			wantWrong(t, fmt.Sprintf(place, n), 1)
		}
	}
	for _, n := range []string{"2147483648", "4294967295", "4294967296", "9223372036854775807", "9223372036854775808", "18446744073709551614", "18446744073709551615"} {
		wantGood(t, "r1 = "+n+" ll")
	}
	for _, n := range []string{"18446744073709551616", "18446744073709551617", "18446744073709551619", "18446744073709551620", "18446744073709551625", "36893488147419103232", "184467440737095516150", "99999999999999999999", "-1", "-18446744073709551615"} {
		wantWrong(t, "r1 = "+n+" ll", 1)
	}
}

// 4.2: registers are 0 to 10, without a 0 ahead, and of one letter in both places.
func TestRegisters(t *testing.T) {
	places := []string{"%s += 1", "r1 += %s", "%s = -%[1]s", "r1 = (s16)%s", "%s = be16 %[1]s", "%s = 5 ll", "%s = map 5 ll", "%s = *(u8 *)(r1 + 0)", "r1 = *(s8 *)(%s + 0)", "*(u8 *)(%s - 1) = 1", "*(u8 *)(r1 - 1) = %s", "lock *(u32 *)(%s + 0) |= r2", "lock *(u32 *)(r2 + 0) |= %s fetch", "lock *(u64 *)(r2 + 0) cmpxchg %s", "if %s == 1 goto +1", "if r1 != %s goto +1"}
	for _, place := range places {
		for n := range 11 {
			wantGood(t, fmt.Sprintf(place, fmt.Sprintf("r%d", n)))
		}
		for _, r := range []string{"r11", "r12", "r15", "r16", "r99", "r100", "r256", "r4294967296", "r18446744073709551616", "r00", "r01", "r010", "r-1", "r-0", "r+1", "r", "rr1", "R1", "x1", "rax", "r1x", "r１", "r1\x00", "(r1", "r 1", "-r1", "s1", "r1.", "\u02b31"} {
			wantWrong(t, fmt.Sprintf(place, r), 1)
		}
	}
	for _, place := range []string{"%s += 1", "w1 += %s", "%s = -%[1]s", "w1 = (s16)%s", "if %s == 1 goto +1", "if w1 != %s goto +1"} {
		for n := range 11 {
			wantGood(t, fmt.Sprintf(place, fmt.Sprintf("w%d", n)))
		}
		for _, r := range []string{"w11", "w01", "w-1", "w", "W1", "w+1"} {
			wantWrong(t, fmt.Sprintf(place, r), 1)
		}
	}
	for _, s := range []string{
		"r1 += w2", "w1 += r2", "r1 = w2", "w1 = r2", "r1 = -w1", "w1 = -r1", "r1 = (s8)w2", "w1 = (s8)r2", "w1 = (s32)w2", "w1 = 1 ll", "w1 = map 1 ll", "w1 = be16 w1", "r1 = be16 w1", "w1 = be16 r1",
		"w1 = *(u8 *)(r2 + 0)", "r1 = *(u8 *)(w2 + 0)", "*(u8 *)(w1 + 0) = 1", "*(u8 *)(r1 + 0) = w2", "lock *(u32 *)(w1 + 0) += r2", "lock *(u32 *)(r1 + 0) += w2", "if r1 == w2 goto +1", "if w1 == r2 goto +1",
		"r1 = -r2", "w1 = -w10", "r1 = be16 r2", "r1 = le64 r10", "r10 = bswap32 r1",
	} {
		wantWrong(t, s, 1)
	}
}

// 4.2: words that look like the table's and are none of it.
func TestWordsOfNoRow(t *testing.T) {
	for _, s := range []string{
		"r1", "=", "ll", "5", "goto", "call", "if", "lock", "exit now", "exit 0", "Exit", "EXIT", "exit;", "ret", "call r1", "call +1", "call x", "goto 3", "goto r1", "goto out", "Goto +1",
		"r1 = 5;", "r1 == 5", "r1 =5", "r1= 5", "r1=5", "r1 := 5", "r1 =+ 5", "r1 s+= 5", "r1 s-= 5", "r1 s*= 5", "r1 s|= 5", "r1 s&= 5", "r1 s<<= 5", "r1 s^= 5", "r1 s= 5", "r1 ss/= 5", "r1 >>>= 5", "r1 != 5", "r1 + 5", "r1 ++ 5", "r1 s 5", "r1 < 5",
		"5 = r1", "-r1 = r1", "r1 = --r1", "r1 = - r1", "r1 = ~r1", "r1 += -r1", "r1 = (s8) r2", "r1 = (s64)r2", "r1 = (s0)r2", "r1 = (s08)r2", "r1 = (s)r2", "r1 = (u8)r2", "r1 = (8)r2", "r1 = (s8)5", "r1 = (s8)-5", "r1 = (s8)(s8)r2", "r1 += (s8)r2", "r1 = (s8r2", "r1 = s8)r2", "r1 = (s8)", "r1 = (", "r1 = ()",
		"r1 = le r1", "r1 = le8 r1", "r1 = le16", "r1 = be r1", "r1 = be24 r1", "r1 = be016 r1", "r1 = bswap r1", "r1 = bswap8 r1", "r1 = bswap16r1", "r1 = swap16 r1", "r1 += be16 r1", "be16 r1", "r1 = BE16 r1",
		"r1 = ll", "r1 = 5 l", "r1 = 5 LL", "r1 = 5 lll", "r1 = 5ll", "r1 += 5 ll", "r1 = r2 ll", "r1 = map ll", "r1 = map5 ll", "r1 = map 5", "r1 += map 5 ll", "r1 = Map 5 ll", "r1 = fd 5 ll", "r1 = map r5 ll", "r1 = map 5 6 ll", "map 5 ll", "exit ll", "goto +1 ll",
		"r1 = *(u24 *)(r1 + 0)", "r1 = *(u0 *)(r1 + 0)", "r1 = *(s64 *)(r1 + 0)", "r1 = *(i32 *)(r1 + 0)", "r1 = *(u032 *)(r1 + 0)", "r1 = *(u *)(r1 + 0)", "r1 = *(U32 *)(r1 + 0)", "r1 = *(u32*)(r1 + 0)", "r1 = *(u32 *) (r1 + 0)", "r1 = *(u32 *)(r1 +0)", "r1 = *(u32 *)(r1+ 0)", "r1 = *(u32 *)(r1+0)", "r1 = *(u32 *)(r1)", "r1 = *(u32 *)r1 + 0", "r1 = (u32 *)(r1 + 0)", "r1 = *(u32 *)(r1 + 0", "r1 = *(u32 *)(r1 + 0))", "r1 = *(u32 *)(r1 + 0 )", "r1 = *(u32 *)(r1 & 0)", "r1 = *(u32 *)(0 + r1)", "r1 += *(u32 *)(r1 + 0)", "r1 = *(u32 **)(r1 + 0)", "r1 = *(u32 *)((r1 + 0)",
		"*(u32 *)(r1 + 0)", "*(u24 *)(r1 + 0) = 1", "*(s32 *)(r1 + 0) = 1", "*(s8 *)(r1 + 0) = r2", "*(u32 *)(r1 + 0) += 1", "*(u32 *)(r1 + 0) += r2", "*(u32 *)(r1 + 0) == 1", "*(u32 *)(r1 + 0) = -r2", "*(u32 *)(r1 + 0) = *(u32 *)(r1 + 0)", "*(u32 *)(r1 + 0)= 1", "(u32 *)(r1 + 0) = 1", "u32 *)(r1 + 0) = 1",
		"lock *(u8 *)(r1 + 0) += r2", "lock *(u16 *)(r1 + 0) += r2", "lock *(s32 *)(r1 + 0) += r2", "lock *(s8 *)(r1 + 0) xchg r2", "lock *(u32 *)(r1 + 0) = r2", "lock *(u32 *)(r1 + 0) -= r2", "lock *(u32 *)(r1 + 0) *= r2", "lock *(u32 *)(r1 + 0) += 2", "lock *(u32 *)(r1 + 0) xchg 2", "lock *(u32 *)(r1 + 0) xchg r2 fetch", "lock *(u32 *)(r1 + 0) cmpxchg r2 fetch", "lock *(u32 *)(r1 + 0) += r2 Fetch", "lock *(u32 *)(r1 + 0) += r2 fetch fetch", "lock *(u32 *)(r1 + 0) += r2 exit", "lock *(u32 *)(r1 + 0) fetch += r2", "Lock *(u32 *)(r1 + 0) += r2", "lock lock *(u32 *)(r1 + 0) += r2", "lock *(u32 *)(r1 + 0) s+= r2", "lock *(u32 *)(r1 + 0) xadd r2",
		"if r1 = 0 goto +1", "if r1 == 0", "if r1 == 0 goto", "if r1 == 0 +1", "if r1 == 0 then +1", "if r1 == 0 exit", "if r1 == 0 call 1", "if r1 s== 0 goto +1", "if r1 s!= 0 goto +1", "if r1 s& 0 goto +1", "if r1 | 0 goto +1", "if r1 <> 0 goto +1", "if r1 =< 0 goto +1", "if r1 && 0 goto +1", "if 0 == r1 goto +1", "if (r1 == 0) goto +1", "if r1 goto +1", "If r1 == 0 goto +1", "unless r1 == 0 goto +1", "if r1 == 0 Goto +1", "if -r1 == 0 goto +1", "if r1 == -r2 goto +1", "if if == 0 goto +1",
		"# exit", "// exit", "exit # end", ";", "0:", "0: exit", "é", "éxit", "exit\u0301", "e\u200bxit", "\U0001f600", "\xff", "exit\xff", "\xc3exit", "ex\xffit", "r1 = 5\xe2\x82", "r1 \ufffd= 5", "r1 = \ufffd", "\x00", "exit\x00", "\x7f",
	} {
		wantWrong(t, s, 1)
		wantWrong(t, s+"\n", 1)
		wantWrong(t, "  "+s+"  ", 1)
	}
}

// 4.2: the number is that of the first line that is wrong; lines that say nothing count, and so do those ahead of it.
func TestNumberOfTheWrongLine(t *testing.T) {
	for _, c := range []struct {
		s      string
		number int
	}{
		{"x", 1}, {"x\n", 1}, {"\nx", 2}, {"exit\nx", 2}, {"exit\n\n\nx\nexit", 4}, {"  \n \nr1 = 05\n", 3}, {"x\nx\nx", 1}, {"exit\nx\ny\n", 2},
		{"r1 = 1 ll\nr1 = 1 ll\nx", 3}, {"exit\n\n\n\n\n\n\n\n\n x  y ", 10}, {"exit\r\nexit\r\n", 1}, {"exit\n\r\n", 2}, {"exit\nexit\n\x00", 3}, {"exit\n\xff", 2}, {"é\nx", 1}, {"exit\n\u2028x", 2},
		{strings.Repeat("exit\n", 5000) + "x", 5001}, {strings.Repeat("\n", 70000) + "x", 70001}, {strings.Repeat("exit\nx\n", 3), 2},
	} {
		wantWrong(t, c.s, c.number)
	}
}

// 4.2: a line may be long, and there may be many of them.
func TestReadMuch(t *testing.T) {
	wantWrong(t, "r1 = "+strings.Repeat("1", 100000), 1)
	wantWrong(t, "r1 = "+strings.Repeat("0", 100000), 1)
	wantWrong(t, strings.Repeat("x", 100000), 1)
	wantWrong(t, strings.Repeat("x ", 100000), 1)
	wantWrong(t, "exit"+strings.Repeat(" ", 100000)+"exit", 1)
	l := make([]api.Insn, 3*api.MaxInsns)
	for k := range l {
		l[k] = api.Insn{Op: 149}
	}
	wantRead(t, strings.Repeat("exit\n", len(l)), l)
}
