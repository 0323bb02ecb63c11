package asm

import (
	"fmt"
	"math"
	"regexp"
	"slices"
	"strconv"
	"strings"
	"testing"

	"palisade/api"
	"palisade/insn"
)

// each has a line of each operation, with as many different operands as it has, in the order of the chapter's table,
// and its instruction. The line is the one that Show tells.
var each = []struct {
	line string
	x    api.Insn
}{
	{"add x1 x2 x3", api.Insn{Op: insn.Add, Rd: 1, Rs1: 2, Rs2: 3}},
	{"sub x4 x5 x6", api.Insn{Op: insn.Sub, Rd: 4, Rs1: 5, Rs2: 6}},
	{"and x7 x8 x9", api.Insn{Op: insn.And, Rd: 7, Rs1: 8, Rs2: 9}},
	{"or x10 x11 x12", api.Insn{Op: insn.Or, Rd: 10, Rs1: 11, Rs2: 12}},
	{"xor x13 x14 x15", api.Insn{Op: insn.Xor, Rd: 13, Rs1: 14, Rs2: 15}},
	{"sll x1 x2 x3", api.Insn{Op: insn.Sll, Rd: 1, Rs1: 2, Rs2: 3}},
	{"srl x1 x2 x3", api.Insn{Op: insn.Srl, Rd: 1, Rs1: 2, Rs2: 3}},
	{"sra x1 x2 x3", api.Insn{Op: insn.Sra, Rd: 1, Rs1: 2, Rs2: 3}},
	{"slt x1 x2 x3", api.Insn{Op: insn.Slt, Rd: 1, Rs1: 2, Rs2: 3}},
	{"sltu x1 x2 x3", api.Insn{Op: insn.Sltu, Rd: 1, Rs1: 2, Rs2: 3}},
	{"mul x1 x2 x3", api.Insn{Op: insn.Mul, Rd: 1, Rs1: 2, Rs2: 3}},
	{"divu x1 x2 x3", api.Insn{Op: insn.Divu, Rd: 1, Rs1: 2, Rs2: 3}},
	{"remu x1 x2 x3", api.Insn{Op: insn.Remu, Rd: 1, Rs1: 2, Rs2: 3}},
	{"addi x1 x2 -8192", api.Insn{Op: insn.Addi, Rd: 1, Rs1: 2, Imm: -8192}},
	{"andi x1 x2 8191", api.Insn{Op: insn.Andi, Rd: 1, Rs1: 2, Imm: 8191}},
	{"ori x1 x2 3", api.Insn{Op: insn.Ori, Rd: 1, Rs1: 2, Imm: 3}},
	{"xori x1 x2 3", api.Insn{Op: insn.Xori, Rd: 1, Rs1: 2, Imm: 3}},
	{"slli x1 x2 0", api.Insn{Op: insn.Slli, Rd: 1, Rs1: 2}},
	{"srli x1 x2 63", api.Insn{Op: insn.Srli, Rd: 1, Rs1: 2, Imm: 63}},
	{"srai x1 x2 3", api.Insn{Op: insn.Srai, Rd: 1, Rs1: 2, Imm: 3}},
	{"slti x1 x2 -3", api.Insn{Op: insn.Slti, Rd: 1, Rs1: 2, Imm: -3}},
	{"lui x1 131071", api.Insn{Op: insn.Lui, Rd: 1, Imm: 131071}},
	{"ld x1 8 x2", api.Insn{Op: insn.Ld, Rd: 1, Rs1: 2, Imm: 8}},
	{"lw x1 -4 x2", api.Insn{Op: insn.Lw, Rd: 1, Rs1: 2, Imm: -4}},
	{"lb x1 1 x2", api.Insn{Op: insn.Lb, Rd: 1, Rs1: 2, Imm: 1}},
	{"sd x1 8 x2", api.Insn{Op: insn.Sd, Rs2: 1, Rs1: 2, Imm: 8}},
	{"sw x1 -4 x2", api.Insn{Op: insn.Sw, Rs2: 1, Rs1: 2, Imm: -4}},
	{"sb x1 1 x2", api.Insn{Op: insn.Sb, Rs2: 1, Rs1: 2, Imm: 1}},
	{"beq x1 x2 -8192", api.Insn{Op: insn.Beq, Rs1: 1, Rs2: 2, Imm: -8192}},
	{"bne x1 x2 8191", api.Insn{Op: insn.Bne, Rs1: 1, Rs2: 2, Imm: 8191}},
	{"blt x1 x2 3", api.Insn{Op: insn.Blt, Rs1: 1, Rs2: 2, Imm: 3}},
	{"bge x1 x2 3", api.Insn{Op: insn.Bge, Rs1: 1, Rs2: 2, Imm: 3}},
	{"bltu x1 x2 3", api.Insn{Op: insn.Bltu, Rs1: 1, Rs2: 2, Imm: 3}},
	{"bgeu x1 x2 3", api.Insn{Op: insn.Bgeu, Rs1: 1, Rs2: 2, Imm: 3}},
	{"jal x1 -131072", api.Insn{Op: insn.Jal, Rd: 1, Imm: -131072}},
	{"jalr x1 3 x2", api.Insn{Op: insn.Jalr, Rd: 1, Rs1: 2, Imm: 3}},
	{"lr x1 x2", api.Insn{Op: insn.Lr, Rd: 1, Rs1: 2}},
	{"sc x1 x2 x3", api.Insn{Op: insn.Sc, Rd: 1, Rs1: 2, Rs2: 3}},
	{"amoadd x1 x2 x3", api.Insn{Op: insn.Amoadd, Rd: 1, Rs1: 2, Rs2: 3}},
	{"amoswp x1 x2 x3", api.Insn{Op: insn.Amoswp, Rd: 1, Rs1: 2, Rs2: 3}},
	{"fence", api.Insn{Op: insn.Fence}},
	{"ecall", api.Insn{Op: insn.Ecall}},
	{"sret", api.Insn{Op: insn.Sret}},
	{"wfi", api.Insn{Op: insn.Wfi}},
	{"sfence x1", api.Insn{Op: insn.Sfence, Rs1: 1}},
	{"csrrw x1 4095 x2", api.Insn{Op: insn.Csrrw, Rd: 1, Rs1: 2, Imm: 4095}},
	{"csrrs x1 0 x2", api.Insn{Op: insn.Csrrs, Rd: 1, Rs1: 2}},
	{"csrrc x1 3 x2", api.Insn{Op: insn.Csrrc, Rd: 1, Rs1: 2, Imm: 3}},
}

// encode is the word of an instruction that is valid.
func encode(t *testing.T, x api.Insn) uint32 {
	t.Helper()
	w, e := insn.Encode(x)
	if e != api.OK {
		t.Fatalf("%+v is not valid", x)
	}
	return w
}

// gives asks that a text is assembled to these words.
func gives(t *testing.T, text string, base uint64, want ...uint32) {
	t.Helper()
	words, line, e := Assemble(text, base)
	if !slices.Equal(words, want) || line != 0 || e != api.OK {
		t.Errorf("Assemble(%q, %d) = %d, %d, %d, want %d", brief(text), base, words, line, int(e), want)
	}
}

// refuses asks that a text is refused at a line with an error, and has no marks then.
func refuses(t *testing.T, text string, base uint64, line int, e api.Errno) {
	t.Helper()
	words, l, got := Assemble(text, base)
	if len(words) != 0 || l != line || got != e {
		t.Errorf("Assemble(%q, %d) = %d words, %d, %d, want line %d, error %d", brief(text), base, len(words), l, int(got), line, int(e))
	}
	for _, name := range []string{"", "a", "here", "x1"} {
		if at, ok := Mark(text, base, name); at != 0 || ok {
			t.Errorf("Mark(%q, %d, %q) = %d, %v of what is refused", brief(text), base, name, at, ok)
		}
	}
}

func brief(text string) string {
	if len(text) > 200 {
		return text[:100] + ".." + text[len(text)-100:]
	}
	return text
}

// accepts asks whether lines of one word or none are lines.
func accepts(t *testing.T, want bool, lines ...string) {
	t.Helper()
	for _, l := range lines {
		if _, line, e := Assemble(l, 0); line != 0 || (e == api.OK) != want || !want && e != api.ErrForm {
			t.Errorf("Assemble(%q, 0): line %d, error %d, want a line: %v", l, line, int(e), want)
		}
	}
}

// P3.1: each operation's operands stand in the table's order.
func TestEachOperation(t *testing.T) {
	if len(each) != 48 {
		t.Fatal(len(each), "operations")
	}
	var whole []string
	var want []uint32
	for i, c := range each {
		if c.x.Op != i+1 {
			t.Errorf("%q stands in the place of operation %d", c.line, i+1)
		}
		w := encode(t, c.x)
		gives(t, c.line, 0, w)
		whole, want = append(whole, c.line), append(want, w)
	}
	gives(t, strings.Join(whole, "\n"), 4096, want...)
}

// P3.1: an operation has as many operands as the table says, and of the kinds it says.
func TestOperandsOfOtherKinds(t *testing.T) {
	for _, c := range each {
		said := strings.Fields(c.line)
		accepts(t, false, c.line+" x1", c.line+" 1", c.line+" a", c.line+" "+c.line)
		if len(said) > 1 {
			accepts(t, false, strings.Join(said[:len(said)-1], " "), said[0])
		}
		for i := 1; i < len(said); i++ {
			for _, other := range []string{"x1", "1", "frob", "x16", "-", "", "a:", "x-1"} {
				isTarget := i == len(said)-1 && (c.x.Op >= insn.Beq && c.x.Op <= insn.Bgeu || c.x.Op == insn.Jal)
				isRegister := strings.HasPrefix(said[i], "x")
				if isRegister && other == "x1" || !isRegister && other == "1" {
					continue
				}
				l := slices.Clone(said)
				l[i] = other
				// A bad line behind it tells a line that is none from one that has a mark that is nowhere.
				_, line, e := Assemble(strings.Join(l, " ")+"\nfrob", 0)
				wantLine := 0
				if isTarget && (other == "frob" || other == "x16") {
					wantLine = 1
				}
				if line != wantLine || e != api.ErrForm {
					t.Errorf("%q: line %d, error %d, want %d", l, line, int(e), wantLine)
				}
			}
		}
	}
}

// P3.1: operations are known by their names in small letters alone.
func TestNoOperation(t *testing.T) {
	accepts(t, false, "frob", "ADD x1 x2 x3", "Fence", "fence:fence", ".fence", "fenc", "fencee", "x1", "5", "nop", "none", "three",
		".", ":", "::", "-", ".wor 1", ".words 1", ".WORD 1", ".Fill 1", "word 1", "fill 1", "\x00", "fence\x00", "fence\r", "\v", "\f", "\u00a0", "\u2003", "é", "\xff", "fence;", "[fence]", "{", "fence\\")
	accepts(t, true, "fence", "", " ", "\t", ",", "(", ")", " ,\t()", "#", "#\xff\x00")
}

// P3.1: numbers have one form.
func TestNumbers(t *testing.T) {
	x := func(imm int) uint32 { return encode(t, api.Insn{Op: insn.Addi, Rd: 1, Imm: imm}) }
	for _, v := range []int{0, 1, -1, 9, 10, -10, 100, 8191, -8192} {
		gives(t, "addi x1 x0 "+strconv.Itoa(v), 0, x(v))
	}
	for _, s := range []string{"00", "01", "-0", "-01", "-00", "--1", "+1", "-", "1-", "1_0", "0x1", "1a", "1.0", "1e1", " - 1", "١", "1:", "1000000000000000", "-1000000000000000", "9999999999999999", "99999999999999999999999999", "000000000000001"} {
		// The line behind it is reached only by what is formed as a number.
		refuses(t, "addi x1 x0 "+s+"\nfrob", 0, 0, api.ErrForm)
		refuses(t, "beq x1 x0 "+s+"\nfrob", 0, 0, api.ErrForm)
		accepts(t, false, ".word "+s, ".fill "+s)
	}
	for _, s := range []string{"100000000000000", "999999999999999", "-100000000000000", "-999999999999999"} {
		refuses(t, "addi x1 x0 "+s+"\nfrob", 0, 1, api.ErrForm)
		refuses(t, "jal x1 "+s+"\nfrob", 0, 1, api.ErrForm)
		refuses(t, "fence\naddi x1 x0 "+s+"\nfence", 0, 1, api.ErrForm)
	}
}

// P3.1: names have 1 to 30 signs, and are no registers'.
func TestNames(t *testing.T) {
	long := strings.Repeat("a", 30)
	for _, name := range []string{"a", "z", "_", "a0", "_9", "az_09", "x", "x16", "x00", "x01", "x015", "x1a", "x_1", "xx1", "y1", "x99999999999999999999", "x150", "word", "fill", "add", "fence", long, "_2345678901234567890123456789_"} {
		gives(t, name+":", 0)
		gives(t, "fence\n"+name+": jal x1 "+name, 8, encode(t, api.Insn{Op: insn.Fence}), encode(t, api.Insn{Op: insn.Jal, Rd: 1}))
		if at, ok := Mark("fence\n"+name+": jal x1 "+name, 8, name); at != 12 || !ok {
			t.Errorf("Mark of %q: %d, %v", name, at, ok)
		}
	}
	none := []string{"", long + "a", "0", "0a", "9_", "-a", "A", "aB", "a-b", "a.b", ".a", "a:", ":", "é", "a\x00", "a\r", "a\xff", "`", "{", "@", "/"}
	for i := range 16 {
		none = append(none, "x"+strconv.Itoa(i))
	}
	for _, name := range none {
		accepts(t, false, name+":", name+": fence", name+":fence")
		// Where a mark or a number may stand, the line is none with this, whatever is behind it.
		if name != "0" {
			refuses(t, "jal x1 "+name+"\nfrob", 0, 0, api.ErrForm)
			refuses(t, "beq x1 x1 "+name+"\nfrob", 0, 0, api.ErrForm)
		}
	}
}

// P3.1: registers are x0 to x15.
func TestRegisters(t *testing.T) {
	for i := range 16 {
		r := "x" + strconv.Itoa(i)
		gives(t, "add "+r+" "+r+" "+r, 0, encode(t, api.Insn{Op: insn.Add, Rd: i, Rs1: i, Rs2: i}))
		gives(t, "sfence "+r, 0, encode(t, api.Insn{Op: insn.Sfence, Rs1: i}))
	}
	for _, r := range []string{"x16", "x01", "x00", "x015", "x-1", "x-0", "x", "X1", "1", "x1x", "xx1", "x+1", "r1", "x99999999999999999999", "x1:"} {
		refuses(t, "sfence "+r+"\nfrob", 0, 0, api.ErrForm)
		refuses(t, "add x1 "+r+" x1\nfrob", 0, 0, api.ErrForm)
	}
}

// P3.1: .word and .fill, at their edges and beyond.
func TestWordAndFill(t *testing.T) {
	gives(t, ".word 0", 0, 0)
	gives(t, ".word -1", 0, math.MaxUint32)
	gives(t, ".word -2147483648", 0, 1<<31)
	gives(t, ".word 2147483648", 0, 1<<31)
	gives(t, ".word 4294967295", 0, math.MaxUint32)
	gives(t, "a: .word 5\n.word 6", 0, 5, 6)
	gives(t, ".fill 0", 0)
	gives(t, ".word 7\n.fill 3\n.word 8", 0, 7, 0, 0, 0, 8)
	gives(t, ".fill 4096", 0, make([]uint32, 4096)...)
	for _, l := range []string{".word -2147483649", ".word 4294967296", ".word 999999999999999", ".fill 4097", ".fill -1", ".fill 4294967296", ".word", ".fill", ".word 1 2", ".fill 1 2", ".word a", ".fill a", ".word x1", "a: .word a", ".word .word 1", ".word: 1", "1 .word"} {
		refuses(t, l+"\nfrob", 0, 0, api.ErrForm)
	}
}

// P3.1: what parts lines and words, and what says nothing.
func TestGaps(t *testing.T) {
	w := encode(t, api.Insn{Op: insn.Ld, Rd: 1, Rs1: 2, Imm: 8})
	for _, l := range []string{"ld x1, 8(x2)", "ld x1 8 x2", "ld(x1)8(x2", "\tld\tx1\t8\tx2\t", "ld,x1,8,x2", ",,ld ( x1 ),,(8) x2))((", "ld x1, 8(x2)#", "ld x1 8 x2 # x3", "ld x1 8 x2#frob#fence", "ld x1 8 (x2)\t#\xff\x00\r"} {
		gives(t, l, 0, w)
		gives(t, "a:"+" "+l, 0, w)
		gives(t, "a:("+l, 0, w)
		gives(t, "\n\n"+l+"\n\n", 0, w)
	}
	gives(t, "#ld x1 8 x2", 0)
	gives(t, "# a:\na: # a:\n#a:", 0)
	gives(t, "#\nfence", 0, encode(t, api.Insn{Op: insn.Fence}))
	refuses(t, "ld x1 8 #x2", 0, 0, api.ErrForm)
	refuses(t, "ld x1 8\nx2", 0, 0, api.ErrForm)
	refuses(t, "a #:", 0, 0, api.ErrForm)
	accepts(t, false, "ldx1 8 x2", "ld x1 8;x2", "ld x1 8x2", "a :", "a:fence", "a: b:", "a: a:", "a: b: fence", "fence a:", "a: frob", "ld x1 8\rx2", "ld x1 8 x2\r", "ld x1 [8] x2")
}

// P3.1: a mark leads to its line from ahead and from behind, whatever the base.
func TestTargets(t *testing.T) {
	beq := func(imm int) uint32 { return encode(t, api.Insn{Op: insn.Beq, Rs1: 1, Rs2: 2, Imm: imm}) }
	jal := func(imm int) uint32 { return encode(t, api.Insn{Op: insn.Jal, Rd: 3, Imm: imm}) }
	text := "a: beq x1 x2 c\nb:\n.fill 2\njal x3 a\n\nc: jal x3 c # c\nbeq x1 x2 b\njal x3 end\nend:"
	for _, base := range []uint64{0, 4, 65536, 1<<40 - 4, 1 << 40} {
		gives(t, text, base, beq(4), 0, 0, jal(-3), jal(0), beq(-4), jal(1))
		for name, ahead := range map[string]uint64{"a": 0, "b": 1, "c": 4, "end": 7} {
			if at, ok := Mark(text, base, name); at != base+4*ahead || !ok {
				t.Errorf("Mark(.., %d, %q) = %d, %v", base, name, at, ok)
			}
		}
		for _, name := range []string{"", "d", "A", "a:", "x1", "fence", "beq", "a ", " a", "en", "ende", "\x00", "\xff"} {
			if at, ok := Mark(text, base, name); at != 0 || ok {
				t.Errorf("Mark(.., %d, %q) = %d, %v", base, name, at, ok)
			}
		}
	}
	// A number is imm itself, and a mark may have an operation's name.
	gives(t, "add: beq x1 x2 -1\njal x3 add\nbeq x1 x2 add", 400, beq(-1), jal(-1), beq(-2))
}

// P3.1: a mark that is too far makes an instruction that is not valid, one at the edge does not.
func TestFarTargets(t *testing.T) {
	fill := func(n int) string {
		return strings.Repeat(".fill 4096\n", n/4096) + ".fill " + strconv.Itoa(n%4096) + "\n"
	}
	words, line, e := Assemble("beq x1 x2 a\n"+fill(8190)+"a:", 0)
	if len(words) != 8191 || line != 0 || e != api.OK || words[0] != encode(t, api.Insn{Op: insn.Beq, Rs1: 1, Rs2: 2, Imm: 8191}) {
		t.Error(len(words), line, int(e))
	}
	refuses(t, "beq x1 x2 a\n"+fill(8191)+"a:", 0, 0, api.ErrForm)
	words, line, e = Assemble("a:\n"+fill(8192)+"beq x1 x2 a", 0)
	if len(words) != 8193 || line != 0 || e != api.OK || words[8192] != encode(t, api.Insn{Op: insn.Beq, Rs1: 1, Rs2: 2, Imm: -8192}) {
		t.Error(len(words), line, int(e))
	}
	refuses(t, "a:\n"+fill(8193)+"beq x1 x2 a", 0, 4, api.ErrForm)
	// jal goes as far as a program may.
	words, line, e = Assemble("jal x1 a\n"+fill(16383)+"a:", 0)
	if len(words) != 16384 || line != 0 || e != api.OK || words[0] != encode(t, api.Insn{Op: insn.Jal, Rd: 1, Imm: 16384}) {
		t.Error(len(words), line, int(e))
	}
}

// P3.1: the base.
func TestBase(t *testing.T) {
	for _, base := range []uint64{0, 4, 8, 1<<40 - 4, 1 << 40} {
		gives(t, ".word 1", base, 1)
	}
	for _, base := range []uint64{1, 2, 3, 5, 6, 7, 1<<40 - 1, 1<<40 + 1, 1<<40 + 4, 1 << 63, math.MaxUint64 - 3, math.MaxUint64} {
		refuses(t, "here: .word 1", base, 0, api.ErrArg)
		refuses(t, "", base, 0, api.ErrArg)
	}
}

// P3.1: how long texts and programs may be.
func TestGreatest(t *testing.T) {
	most := strings.Repeat("#", api.MaxAsm)
	gives(t, most, 0)
	refuses(t, most+"#", 0, 0, api.ErrBig)
	refuses(t, "here:\n"+most, 0, 0, api.ErrBig)
	gives(t, strings.Repeat("\n", api.MaxAsm), 0)
	refuses(t, strings.Repeat("\n", api.MaxAsm-1)+"a", 0, api.MaxAsm-1, api.ErrForm)

	full := strings.Repeat(".fill 4096\n", 4)
	gives(t, full, 0, make([]uint32, 16384)...)
	gives(t, full+"here:\n.fill 0", 0, make([]uint32, 16384)...)
	if at, ok := Mark(full+"here:", 1<<40, "here"); at != 1<<40+65536 || !ok {
		t.Error(at, ok)
	}
	for _, l := range []string{".word 0", "fence", ".fill 1", ".fill 4096", "here: fence"} {
		refuses(t, full+l, 0, 0, api.ErrBig)
		refuses(t, l+"\n"+full, 0, 0, api.ErrBig)
	}
	refuses(t, strings.Repeat(".fill 4096\n", api.MaxAsm/11), 0, 0, api.ErrBig)
}

// P3.1: which error is told where several are.
func TestOrderOfErrors(t *testing.T) {
	long := strings.Repeat("#", api.MaxAsm) + "\n"
	big := strings.Repeat(".fill 4096\n", 5)
	for _, c := range []struct {
		text string
		base uint64
		line int
		e    api.Errno
	}{
		{"frob", 2, 0, api.ErrArg},
		{long, 1<<40 + 4, 0, api.ErrArg},
		{big, 1, 0, api.ErrArg},
		{"fence\njal x1 nowhere", 3, 0, api.ErrArg},
		{"fence\nfrob\n" + long, 0, 0, api.ErrBig},
		{big + "jal x1 nowhere", 0, 0, api.ErrBig},
		{"addi x1 x1 8192\n" + big, 0, 0, api.ErrBig},
		// The words are counted as soon as all lines are read, which a line that is none keeps from being.
		{big + "frob", 0, 5, api.ErrForm},
		{"frob\n" + big, 0, 0, api.ErrForm},
		{"a:\n" + big + "a:", 0, 6, api.ErrForm},
		// Lines that are none and marks again, whichever is first.
		{"fence\nfrob\nfrob", 0, 1, api.ErrForm},
		{"a:\na:\nfrob", 0, 1, api.ErrForm},
		{"a:\nfrob\na:", 0, 1, api.ErrForm},
		{"a:\nb: fence\n\na: fence\nb: fence", 0, 3, api.ErrForm},
		{"a: fence\n#\na: frob", 0, 2, api.ErrForm},
		// They come ahead of marks that are nowhere and instructions that are not valid.
		{"jal x1 nowhere\nfence\nfrob", 0, 2, api.ErrForm},
		{"addi x1 x1 8192\na:\na:", 0, 2, api.ErrForm},
		{"slli x1 x1 64\n.word 4294967296", 0, 1, api.ErrForm},
		// Of these the first is told.
		{"fence\njal x1 nowhere\naddi x1 x1 8192", 0, 1, api.ErrForm},
		{"fence\n\naddi x1 x1 8192\njal x1 nowhere", 0, 2, api.ErrForm},
		{"a: fence\n.fill 9\nb: beq x1 x1 c", 0, 2, api.ErrForm},
	} {
		refuses(t, c.text, c.base, c.line, c.e)
	}
}

// P3.1: instructions that are not valid, at the edges of what insn says.
func TestNotValid(t *testing.T) {
	for _, l := range []string{"addi x1 x1 8191", "addi x1 x1 -8192", "slli x1 x1 0", "srai x1 x1 63", "csrrw x1 0 x1", "csrrc x1 4095 x1", "lui x1 131071", "lui x1 -131072", "jal x1 131071", "bgeu x1 x1 8191", "sd x1 -8192 x1", "jalr x1 8191 x1"} {
		accepts(t, true, l)
	}
	for _, l := range []string{"addi x1 x1 8192", "addi x1 x1 -8193", "slli x1 x1 64", "srli x1 x1 -1", "srai x1 x1 64", "csrrw x1 -1 x1", "csrrc x1 4096 x1", "lui x1 131072", "lui x1 -131073", "jal x1 131072", "bgeu x1 x1 8192", "sd x1 -8193 x1", "jalr x1 8192 x1"} {
		refuses(t, "fence\n"+l+"\nfence", 0, 1, api.ErrForm)
		refuses(t, "fence\n"+l+"\nfrob", 0, 2, api.ErrForm)
	}
}

// P3.2: a mark is told of programs alone, and where it stands.
func TestMark(t *testing.T) {
	for _, c := range []struct {
		text, name string
		at         uint64
		ok         bool
	}{
		{"fence\nfence\nhere: ecall", "here", 264, true},
		{"here:", "here", 256, true},
		{"here:\nthere:", "there", 256, true},
		{".fill 4096\n\nhere: # ecall", "here", 256 + 16384, true},
		{".fill 0\nhere:", "here", 256, true},
		{"here: fence", "there", 0, false},
		{"#here:", "here", 0, false},
		{"here: fence", "", 0, false},
		{"here: fence\nfrob", "here", 0, false},
		{"here: jal x1 nowhere", "here", 0, false},
		{"here: jal x1 nowhere", "nowhere", 0, false},
		{"here: addi x1 x1 8192", "here", 0, false},
		{"here:\nhere:", "here", 0, false},
		{"", "here", 0, false},
		{"fence", "fence", 0, false},
	} {
		if at, ok := Mark(c.text, 256, c.name); at != c.at || ok != c.ok {
			t.Errorf("Mark(%q, 256, %q) = %d, %v, want %d, %v", c.text, c.name, at, ok, c.at, c.ok)
		}
	}
}

// P3.3: Show of each operation, and of words that are none.
func TestShow(t *testing.T) {
	for _, c := range each {
		if s := Show(encode(t, c.x)); s != c.line {
			t.Errorf("Show of %+v = %q, want %q", c.x, s, c.line)
		}
	}
	for _, x := range []api.Insn{{Op: insn.Add}, {Op: insn.Add, Rd: 15, Rs1: 15, Rs2: 15}} {
		r := fmt.Sprintf("x%d", x.Rd)
		if s := Show(encode(t, x)); s != "add "+r+" "+r+" "+r {
			t.Errorf("Show of %+v = %q", x, s)
		}
	}
	fence := encode(t, api.Insn{Op: insn.Fence})
	add := encode(t, api.Insn{Op: insn.Add, Rd: 1})
	slli := encode(t, api.Insn{Op: insn.Slli, Rd: 1})
	lr := encode(t, api.Insn{Op: insn.Lr, Rd: 1})
	for _, w := range []uint32{0, 1, 1 << 25, 1<<26 - 1, 49 << 26, 63 << 26, math.MaxUint32, fence | 1, fence | 1<<22, add | 1, slli | 64, slli | 1<<14, lr | 1<<14} {
		if s := Show(w); s != ".word "+fmt.Sprint(w) {
			t.Errorf("Show(%#x) = %q", w, s)
		}
	}
}

// P3.3, P3.4: what Show tells, of words over all 32 bits, is what the fields say, and is assembled to the word.
func TestShowIsAssembled(t *testing.T) {
	var ws []uint32
	for _, c := range each {
		w := encode(t, c.x)
		ws = append(ws, w)
		for bit := range 32 {
			ws = append(ws, w^1<<bit)
		}
	}
	for w := uint64(0); w <= math.MaxUint32; w += 1 << 17 {
		ws = append(ws, uint32(w), uint32(w)|uint32(w>>17)&0x3fff, uint32(w)+1<<17-1)
	}
	form := regexp.MustCompile(`^([a-z]+( (x[0-9]+|-?[0-9]+))*|\.word [0-9]+)$`)
	for _, w := range ws {
		s := Show(w)
		if !form.MatchString(s) {
			t.Fatalf("Show(%#x) = %q", w, s)
		}
		if _, e := insn.Decode(w); (e == api.OK) == strings.HasPrefix(s, ".word ") {
			t.Fatalf("Show(%#x) = %q, but Decode tells %d", w, s, int(e))
		}
		words, line, e := Assemble(s, 1<<40)
		if len(words) != 1 || words[0] != w || line != 0 || e != api.OK {
			t.Fatalf("Show(%#x) = %q, which is assembled to %x, %d, %d", w, s, words, line, int(e))
		}
	}
}

// lineForms tells the lines of the document as patterns over a whole line, apart from how the program reads them.
func lineForms() *regexp.Regexp {
	const gap, gaps = `[ ,\t()]+`, `[ ,\t()]*`
	const reg, num, name = `x(?:1[0-5]|[0-9])`, `(?:0|-?[1-9][0-9]{0,14})`, `[a-z_][a-z0-9_]{0,29}`
	const mark = `(?:` + name + `|` + num + `)`
	with := func(ops string, operands ...string) string {
		return strings.Join(append([]string{`(?:` + ops + `)`}, operands...), gap)
	}
	body := strings.Join([]string{
		with(`add|sub|and|or|xor|sll|srl|sra|slt|sltu|mul|divu|remu|sc|amoadd|amoswp`, reg, reg, reg),
		with(`lr`, reg, reg),
		with(`addi|andi|ori|xori|slti|slli|srli|srai`, reg, reg, num),
		with(`ld|lw|lb|jalr|csrrw|csrrs|csrrc|sd|sw|sb`, reg, num, reg),
		with(`beq|bne|blt|bge|bltu|bgeu`, reg, reg, mark),
		with(`lui`, reg, num),
		with(`jal`, reg, mark),
		with(`sfence`, reg),
		with(`fence|ecall|sret|wfi`),
		with(`\.word|\.fill`, num),
	}, "|")
	return regexp.MustCompile(`^` + gaps + `(?:` + name + `:(?:` + gap + `(?:` + body + `))?|` + body + `)?` + gaps + `(?:#(?s:.*))?$`)
}

// P3.1: any byte in any place of a line: the line is one if it is by the document's forms, which stand here as patterns.
func TestAnyBytes(t *testing.T) {
	forms := lineForms()
	registerAsName := regexp.MustCompile(`^[ ,\t()]*(x(?:1[0-5]|[0-9])):|^[ ,\t()]*(?:[a-z0-9_]*:[ ,\t()]+)?(?:(?:beq|bne|blt|bge|bltu|bgeu)[ ,\t()]+x[0-9]+|jal)[ ,\t()]+x[0-9]+[ ,\t()]+x(?:1[0-5]|[0-9])[ ,\t()]*(?:#|$)`)
	lines := []string{"", "a", "a: ld x1, 8(x2) # b", "b_1:\tbeq x10,x2, b_1", "jal x1 x", "x9: fence", ".word -10", "\t.fill 10", "csrrw x1 10 x15", "lr x1 x2", "sfence (x3)", "lui x1, -9", "wfi", "x1a: bltu x1 x2 x1a"}
	var all []string
	for _, l := range lines {
		for b := range 256 {
			s := string([]byte{byte(b)})
			for at := range len(l) {
				all = append(all, l[:at]+s+l[at:], l[:at]+s+l[at+1:])
			}
			all = append(all, l+s)
		}
	}
	for _, l := range all {
		if strings.Contains(l, "\n") {
			continue
		}
		want := forms.MatchString(l) && !registerAsName.MatchString(l) && !tooGreat(l)
		// A bad line behind it is told only where the one ahead is a line.
		words, line, e := Assemble(l+"\nfrob", 0)
		if len(words) != 0 || e != api.ErrForm || (line == 1) != want {
			t.Fatalf("%q: %d words, line %d, error %d, want a line: %v", l, len(words), line, int(e), want)
		}
	}
}

// tooGreat tells whether .word or .fill has a number that it may not have.
func tooGreat(line string) bool {
	said, _, _ := strings.Cut(line, "#")
	m := regexp.MustCompile(`\.(word|fill)[ ,\t()]+(-?[0-9]+)[ ,\t()]*$`).FindStringSubmatch(said)
	if m == nil {
		return false
	}
	v, _ := strconv.Atoi(m[2])
	if m[1] == "fill" {
		return v < 0 || v > 4096
	}
	return v < -1<<31 || v > 1<<32-1
}

// P3.1: no bytes make Assemble, Mark or Show fall over, and all errors have no words.
func TestWrongTexts(t *testing.T) {
	var whole strings.Builder
	for b := range 256 {
		whole.WriteByte(byte(b))
	}
	texts := []string{whole.String(), strings.Repeat(whole.String(), 256), strings.Repeat("\xff\xfe", 100), strings.Repeat("a:", 1000), strings.Repeat("(", api.MaxAsm), strings.Repeat("a", api.MaxAsm), strings.Repeat("-", 100), strings.Repeat(whole.String(), 257)}
	for a := range 256 {
		for _, b := range []byte{0, '\t', '\n', ' ', '#', ':', '-', '.', '0', 'a', 'x', 0x7f, 0x80, 0xff} {
			texts = append(texts, string([]byte{byte(a), b}))
		}
	}
	for _, text := range texts {
		for _, base := range []uint64{0, 1, 1 << 40, math.MaxUint64} {
			words, line, e := Assemble(text, base)
			if len(words) != 0 || e == api.OK && line != 0 {
				t.Errorf("%q: %d words, %d, %d", brief(text), len(words), line, int(e))
			}
			if at, ok := Mark(text, base, text); at != 0 || ok {
				t.Errorf("%q: a mark at %d", brief(text), at)
			}
		}
	}
}

// Rule 4: each call hands out memory of its own.
func TestNewMemory(t *testing.T) {
	a, _, _ := Assemble(".word 1\n.word 2", 0)
	a[0], a[1] = 9, 9
	_ = append(a[:1], 8)
	gives(t, ".word 1\n.word 2", 0, 1, 2)
}

// The chapter's examples.
func TestExamples(t *testing.T) {
	addi := encode(t, api.Insn{Op: insn.Addi, Rd: 1, Imm: 5})
	gives(t, "a: addi x1, x0, 5\n j1: beq x1, x0, a", 0, addi, encode(t, api.Insn{Op: insn.Beq, Rs1: 1, Imm: -1}))
	refuses(t, "frob", 0, 0, api.ErrForm)
	if s := Show(addi); s != "addi x1 x0 5" {
		t.Error(s)
	}
}
