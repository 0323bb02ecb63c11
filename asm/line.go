package asm

import (
	"strconv"
	"strings"

	"palisade/api"
	"palisade/insn"
)

// names are the operations' names, each in its operation's place.
var names = [...]string{
	insn.Add: "add", insn.Sub: "sub", insn.And: "and", insn.Or: "or", insn.Xor: "xor",
	insn.Sll: "sll", insn.Srl: "srl", insn.Sra: "sra", insn.Slt: "slt", insn.Sltu: "sltu",
	insn.Mul: "mul", insn.Divu: "divu", insn.Remu: "remu",
	insn.Addi: "addi", insn.Andi: "andi", insn.Ori: "ori", insn.Xori: "xori",
	insn.Slli: "slli", insn.Srli: "srli", insn.Srai: "srai", insn.Slti: "slti", insn.Lui: "lui",
	insn.Ld: "ld", insn.Lw: "lw", insn.Lb: "lb", insn.Sd: "sd", insn.Sw: "sw", insn.Sb: "sb",
	insn.Beq: "beq", insn.Bne: "bne", insn.Blt: "blt", insn.Bge: "bge", insn.Bltu: "bltu", insn.Bgeu: "bgeu",
	insn.Jal: "jal", insn.Jalr: "jalr",
	insn.Lr: "lr", insn.Sc: "sc", insn.Amoadd: "amoadd", insn.Amoswp: "amoswp",
	insn.Fence: "fence", insn.Ecall: "ecall", insn.Sret: "sret", insn.Wfi: "wfi", insn.Sfence: "sfence",
	insn.Csrrw: "csrrw", insn.Csrrs: "csrrs", insn.Csrrc: "csrrc",
}

// mostName and mostDigits are how long a name, and a number without its sign, may be.
const (
	mostName   = 30
	mostDigits = 15
)

// place is what an operand stands for in its instruction.
type place int

const (
	rd place = iota
	rs1
	rs2
	imm
	target // imm too, but a mark may stand there
)

// operationsByName tells each operation by its name.
func operationsByName() map[string]int {
	byName := map[string]int{}
	for op := insn.Add; op <= insn.Csrrc; op++ {
		byName[names[op]] = op
	}
	return byName
}

// placesOf tells the operands of an operation in the order in which its line has them.
func placesOf(op int) []place {
	switch op {
	case insn.Lr:
		return []place{rd, rs1}
	case insn.Ld, insn.Lw, insn.Lb, insn.Jalr, insn.Csrrw, insn.Csrrs, insn.Csrrc:
		return []place{rd, imm, rs1}
	case insn.Lui:
		return []place{rd, imm}
	}
	switch shape, _ := insn.Shape(op); shape {
	case insn.Three:
		return []place{rd, rs1, rs2}
	case insn.Two:
		return []place{rd, rs1, imm}
	case insn.Stores:
		return []place{rs2, imm, rs1}
	case insn.Branch:
		return []place{rs1, rs2, target}
	case insn.Long:
		return []place{rd, target}
	case insn.One:
		return []place{rs1}
	}
	return nil
}

// of tells where an instruction has what stands in a place.
func (p place) of(x *api.Insn) *int {
	switch p {
	case rd:
		return &x.Rd
	case rs1:
		return &x.Rs1
	case rs2:
		return &x.Rs2
	}
	return &x.Imm
}

// show tells an operand as a word of a line.
func (p place) show(v int) string {
	switch p {
	case rd, rs1, rs2:
		return "x" + strconv.Itoa(v)
	}
	return strconv.Itoa(v)
}

// instruction reads the operands of an operation; false: they are not those that it has. Whether their numbers may be
// is not asked here: that is told only when each line was read.
func instruction(op int, operands []string) (statement, bool) {
	places := placesOf(op)
	if len(operands) != len(places) {
		return statement{}, false
	}
	s := statement{insn: api.Insn{Op: op}, count: 1}
	v, ok := 0, true
reading:
	for i, p := range places {
		switch p {
		case target:
			if isName(operands[i]) {
				s.target = operands[i]
				continue reading
			}
			v, ok = number(operands[i])
		case imm:
			v, ok = number(operands[i])
		default:
			v, ok = register(operands[i])
		}
		if !ok {
			break reading
		}
		*p.of(&s.insn) = v
	}
	return s, ok
}

// split tells the words of a line.
func split(line string) []string {
	said, _, _ := strings.Cut(line, "#")
	return strings.FieldsFunc(said, isGap)
}

func isGap(r rune) bool {
	switch r {
	case ' ', ',', '\t', '(', ')':
		return true
	}
	return false
}

// number tells the number that a word is. Each has one form: what strconv takes beside it, noughts ahead, -0 and +,
// begins with a sign below 1.
func number(s string) (int, bool) {
	if s == "0" {
		return 0, true
	}
	digits := strings.TrimPrefix(s, "-")
	if digits == "" || len(digits) > mostDigits || digits[0] < '1' {
		return 0, false
	}
	v, err := strconv.Atoi(s)
	return v, err == nil
}

// numberWithin tells the number that is the one operand, if it is neither below least nor above most.
func numberWithin(operands []string, least, most int) (int, bool) {
	if len(operands) != 1 {
		return 0, false
	}
	v, ok := number(operands[0])
	return v, ok && least <= v && v <= most
}

// register tells the number of the register that a word is.
func register(s string) (int, bool) {
	digits, named := strings.CutPrefix(s, "x")
	v, ok := number(digits)
	return v, named && ok && 0 <= v && v <= 15
}

// isName tells whether a word may be a mark's name.
func isName(s string) bool {
	if s == "" || len(s) > mostName || isDigit(s[0]) {
		return false
	}
	for i := range len(s) {
		if !isDigit(s[i]) && s[i] != '_' && (s[i] < 'a' || s[i] > 'z') {
			return false
		}
	}
	_, ok := register(s)
	return !ok
}

func isDigit(b byte) bool { return '0' <= b && b <= '9' }
