package insn

import (
	"math"
	"testing"

	"palisade/api"
)

// row is what the chapter says of one operation, written out here once more so that it shares nothing with the program's tables.
type row struct {
	name         string
	op, number   int
	shape        int
	rd, rs1, rs2 bool
	least, most  int
	bits         uint32 // those of imm in the word
}

func three(name string, op, number int) row {
	return row{name: name, op: op, number: number, shape: 1, rd: true, rs1: true, rs2: true}
}

func two(name string, op, number int) row {
	return row{name: name, op: op, number: number, shape: 2, rd: true, rs1: true, least: -8192, most: 8191, bits: 0x3fff}
}

func shift(name string, op, number int) row {
	return row{name: name, op: op, number: number, shape: 2, rd: true, rs1: true, most: 63, bits: 0x3f}
}

func control(name string, op, number int) row {
	return row{name: name, op: op, number: number, shape: 2, rd: true, rs1: true, most: 4095, bits: 0xfff}
}

func stores(name string, op, number int) row {
	return row{name: name, op: op, number: number, shape: 3, rs1: true, rs2: true, least: -8192, most: 8191, bits: 0x3fff}
}

func branch(name string, op, number int) row {
	return row{name: name, op: op, number: number, shape: 4, rs1: true, rs2: true, least: -8192, most: 8191, bits: 0x3fff}
}

func long(name string, op, number int) row {
	return row{name: name, op: op, number: number, shape: 5, rd: true, least: -131072, most: 131071, bits: 0x3ffff}
}

func bare(name string, op, number int) row {
	return row{name: name, op: op, number: number}
}

func rows() []row {
	return []row{
		three("add", Add, 1), three("sub", Sub, 2), three("and", And, 3), three("or", Or, 4), three("xor", Xor, 5),
		three("sll", Sll, 6), three("srl", Srl, 7), three("sra", Sra, 8), three("slt", Slt, 9), three("sltu", Sltu, 10),
		three("mul", Mul, 11), three("divu", Divu, 12), three("remu", Remu, 13),
		two("addi", Addi, 14), two("andi", Andi, 15), two("ori", Ori, 16), two("xori", Xori, 17),
		shift("slli", Slli, 18), shift("srli", Srli, 19), shift("srai", Srai, 20),
		two("slti", Slti, 21), long("lui", Lui, 22),
		two("ld", Ld, 23), two("lw", Lw, 24), two("lb", Lb, 25),
		stores("sd", Sd, 26), stores("sw", Sw, 27), stores("sb", Sb, 28),
		branch("beq", Beq, 29), branch("bne", Bne, 30), branch("blt", Blt, 31),
		branch("bge", Bge, 32), branch("bltu", Bltu, 33), branch("bgeu", Bgeu, 34),
		long("jal", Jal, 35), two("jalr", Jalr, 36),
		{name: "lr", op: Lr, number: 37, shape: 1, rd: true, rs1: true},
		three("sc", Sc, 38), three("amoadd", Amoadd, 39), three("amoswp", Amoswp, 40),
		bare("fence", Fence, 41), bare("ecall", Ecall, 42), bare("sret", Sret, 43), bare("wfi", Wfi, 44),
		{name: "sfence", op: Sfence, number: 45, shape: 6, rs1: true},
		control("csrrw", Csrrw, 46), control("csrrs", Csrrs, 47), control("csrrc", Csrrc, 48),
	}
}

// Numbers that are no operation's: beside the range, beyond the word's six bits, and those whose lowest bits are one's.
func noOperations() []int {
	return []int{0, 49, 50, 62, 63, 64, 65, 64 + Fence, 256 + Add, -1, -2, -48, 1<<32 + Add, math.MinInt, math.MinInt + 1, math.MaxInt}
}

func registerEdges() []int {
	return []int{math.MinInt, -1 << 32, -16, -1, 0, 1, 7, 8, 15, 16, 17, 31, 256, 1 << 32, math.MaxInt}
}

func immEdges() []int {
	list := []int{math.MinInt, math.MaxInt}
	for _, v := range []int{0, 63, 127, 255, 4095, 8191, 16383, 131071, 262143, 1 << 26, 1 << 31, 1 << 32} {
		for d := -1; d <= 1; d++ {
			list = append(list, v+d, -v-d)
		}
	}
	return list
}

func mayBeRegister(v int, has bool) bool {
	if !has {
		return v == 0
	}
	return v >= 0 && v < 16
}

// valid is Valid as the rows say it.
func (r row) valid(x api.Insn) bool {
	return x.Op == r.number && mayBeRegister(x.Rd, r.rd) && mayBeRegister(x.Rs1, r.rs1) && mayBeRegister(x.Rs2, r.rs2) &&
		x.Imm >= r.least && x.Imm <= r.most
}

// word is the word of a valid instruction, summed up as the chapter tells it.
func (r row) word(x api.Insn) uint32 {
	imm := x.Imm
	if imm < 0 {
		imm += int(r.bits) + 1
	}
	return uint32(x.Op*67108864 + x.Rd*4194304 + x.Rs1*262144 + x.Rs2*16384 + imm)
}

// room is the bits below the operation that a word of the row may have.
func (r row) room() uint32 {
	m := r.bits
	if r.rd {
		m |= 15 << 22
	}
	if r.rs1 {
		m |= 15 << 18
	}
	if r.rs2 {
		m |= 15 << 14
	}
	return m
}

// insn is the instruction of a word that has no bit beside its room.
func (r row) insn(w uint32) api.Insn {
	x := api.Insn{Op: r.number}
	if r.rd {
		x.Rd = int(w / 4194304 % 16)
	}
	if r.rs1 {
		x.Rs1 = int(w / 262144 % 16)
	}
	if r.rs2 {
		x.Rs2 = int(w / 16384 % 16)
	}
	x.Imm = int(w & r.bits)
	if x.Imm > r.most {
		x.Imm -= int(r.bits) + 1
	}
	return x
}

// valids are valid instructions of a row with their fields at their edges.
func (r row) valids() []api.Insn {
	var list []api.Insn
	for _, rd := range registerEdges() {
		for _, rs1 := range registerEdges() {
			for _, rs2 := range registerEdges() {
				if mayBeRegister(rd, r.rd) && mayBeRegister(rs1, r.rs1) && mayBeRegister(rs2, r.rs2) {
					for _, imm := range []int{r.least, r.least / 2, 0, r.most / 2, r.most} {
						list = append(list, api.Insn{Op: r.number, Rd: rd, Rs1: rs1, Rs2: rs2, Imm: imm})
					}
				}
			}
		}
	}
	return list
}

// lowBits are words below the operation's bits: each pair of bits alone, set and cleared, and the ends of the fields.
func lowBits() []uint32 {
	all := uint32(1)<<26 - 1
	list := []uint32{0, all, 63, 64, 4095, 4096, 8191, 8192, 16383, 16384, 131071, 131072, 262143, 262144, 0x155_5555, 0x2aa_aaaa}
	for i := range 26 {
		for j := range i + 1 {
			pair := uint32(1)<<i | uint32(1)<<j
			list = append(list, pair, all&^pair)
		}
	}
	return list
}

func rowOf(op int) (row, bool) {
	for _, r := range rows() {
		if r.number == op {
			return r, true
		}
	}
	return row{}, false
}

func checkDecode(t *testing.T, w uint32) {
	t.Helper()
	want, wantErr := api.Insn{}, api.ErrForm
	if r, known := rowOf(int(w >> 26)); known && w<<6>>6&^r.room() == 0 {
		want, wantErr = r.insn(w), api.OK
	}
	x, e := Decode(w)
	if x != want || e != wantErr {
		t.Fatalf("Decode(%#x) = %+v, %d; want %+v, %d", w, x, int(e), want, int(wantErr))
	}
	if e != api.OK {
		return
	}
	if back, e := Encode(x); back != w || e != api.OK {
		t.Fatalf("Encode(Decode(%#x)) = %#x, %d", w, back, int(e))
	}
}

// P2.1

func TestNumbersOfOperationsAndShapes(t *testing.T) {
	list := rows()
	if len(list) != 48 {
		t.Fatalf("%d operations", len(list))
	}
	for i, r := range list {
		if r.op != r.number || r.number != i+1 {
			t.Errorf("%s is %d, want %d", r.name, r.op, i+1)
		}
	}
	shapes := [...]int{None, Three, Two, Stores, Branch, Long, One}
	for i, s := range shapes {
		if s != i {
			t.Errorf("the shape %d is %d", i, s)
		}
	}
}

func TestShapeOfEachOperation(t *testing.T) {
	for _, r := range rows() {
		if s, ok := Shape(r.number); s != r.shape || !ok {
			t.Errorf("Shape(%s) = %d, %v; want %d, true", r.name, s, ok, r.shape)
		}
	}
}

func TestShapeOfNoOperation(t *testing.T) {
	for _, op := range noOperations() {
		if s, ok := Shape(op); s != 0 || ok {
			t.Errorf("Shape(%d) = %d, %v", op, s, ok)
		}
	}
}

func TestValidExamples(t *testing.T) {
	for _, c := range []struct {
		x    api.Insn
		want bool
	}{
		{api.Insn{Op: Slli, Imm: 64}, false},
		{api.Insn{Op: Slli, Imm: 63}, true},
		{api.Insn{Op: Srai, Imm: -1}, false},
		{api.Insn{Op: Csrrw, Imm: 4095}, true},
		{api.Insn{Op: Csrrw, Imm: 4096}, false},
		{api.Insn{Op: Csrrc, Imm: -1}, false},
		{api.Insn{Op: Lr, Rd: 15, Rs1: 15}, true},
		{api.Insn{Op: Lr, Rd: 15, Rs1: 15, Rs2: 1}, false},
		{api.Insn{Op: Sc, Rd: 15, Rs1: 15, Rs2: 1}, true},
		{api.Insn{Op: Addi, Imm: -8192}, true},
		{api.Insn{Op: Addi, Imm: -8193}, false},
		{api.Insn{Op: Addi, Imm: 8192}, false},
		{api.Insn{Op: Lui, Imm: -131072}, true},
		{api.Insn{Op: Lui, Imm: -131073}, false},
		{api.Insn{Op: Jal, Imm: 131071}, true},
		{api.Insn{Op: Jal, Imm: 131072}, false},
		{api.Insn{Op: Add, Rd: 16}, false},
		{api.Insn{Op: Add, Rs1: -1}, false},
		{api.Insn{Op: Add, Imm: 1}, false},
		{api.Insn{Op: Sd, Rd: 1}, false},
		{api.Insn{Op: Beq, Rd: 1}, false},
		{api.Insn{Op: Sfence, Rs1: 15}, true},
		{api.Insn{Op: Sfence, Rs2: 1}, false},
		{api.Insn{Op: Ecall}, true},
		{api.Insn{Op: Ecall, Imm: 1}, false},
		{api.Insn{}, false},
	} {
		if got := Valid(c.x); got != c.want {
			t.Errorf("Valid(%+v) = %v", c.x, got)
		}
	}
}

// Each field alone goes over its edges, beside fields that are 0 and beside fields at their greatest.
func TestValidFieldByField(t *testing.T) {
	for _, r := range rows() {
		full := r.insn(r.room())
		for _, base := range []api.Insn{{Op: r.number}, full} {
			check := func(x api.Insn) {
				if got := Valid(x); got != r.valid(x) {
					t.Errorf("%s: Valid(%+v) = %v", r.name, x, got)
				}
			}
			for _, v := range registerEdges() {
				x := base
				x.Rd = v
				check(x)
				x = base
				x.Rs1 = v
				check(x)
				x = base
				x.Rs2 = v
				check(x)
			}
			for _, v := range append(immEdges(), r.least-1, r.least, r.most, r.most+1) {
				x := base
				x.Imm = v
				check(x)
			}
		}
	}
}

func TestValidOfNoOperation(t *testing.T) {
	for _, op := range noOperations() {
		for _, x := range []api.Insn{{Op: op}, {Op: op, Rd: 1, Rs1: 2, Imm: 3}, {Op: op, Rs1: math.MinInt, Imm: math.MaxInt}} {
			if Valid(x) {
				t.Errorf("Valid(%+v)", x)
			}
		}
	}
}

// P2.2

func TestEncodeExample(t *testing.T) {
	w, e := Encode(api.Insn{Op: Addi, Rd: 1, Rs1: 2, Imm: -1})
	if w != 14<<26+1<<22+2<<18+16383 || e != api.OK {
		t.Errorf("%#x, %d", w, int(e))
	}
}

func TestEncodePutsEachFieldInItsPlace(t *testing.T) {
	for _, c := range []struct {
		x    api.Insn
		want uint32
	}{
		{api.Insn{Op: Add, Rd: 1, Rs1: 2, Rs2: 3}, 0x0448_c000},
		{api.Insn{Op: Csrrc, Rd: 15, Rs1: 15, Imm: 4095}, 0xc3fc_0fff},
		{api.Insn{Op: Sb, Rs1: 1, Rs2: 15, Imm: -8192}, 0x7007_e000},
		{api.Insn{Op: Bgeu, Rs1: 15, Rs2: 1, Imm: 8191}, 0x883c_5fff},
		{api.Insn{Op: Lui, Rd: 15, Imm: -1}, 0x5bc3_ffff},
		{api.Insn{Op: Jal, Rd: 1, Imm: -131072}, 0x8c42_0000},
		{api.Insn{Op: Jal, Rd: 1, Imm: 131071}, 0x8c41_ffff},
		{api.Insn{Op: Sfence, Rs1: 9}, 0xb424_0000},
		{api.Insn{Op: Fence}, 0xa400_0000},
	} {
		if w, e := Encode(c.x); w != c.want || e != api.OK {
			t.Errorf("Encode(%+v) = %#x, %d; want %#x", c.x, w, int(e), c.want)
		}
		if x, e := Decode(c.want); x != c.x || e != api.OK {
			t.Errorf("Decode(%#x) = %+v, %d; want %+v", c.want, x, int(e), c.x)
		}
	}
}

func TestEncodeOfValidOnes(t *testing.T) {
	for _, r := range rows() {
		for _, x := range r.valids() {
			if w, e := Encode(x); w != r.word(x) || e != api.OK {
				t.Fatalf("%s: Encode(%+v) = %#x, %d; want %#x", r.name, x, w, int(e), r.word(x))
			}
		}
	}
}

func TestEncodeRefusesWhatIsNotValid(t *testing.T) {
	refuses := func(x api.Insn) {
		if w, e := Encode(x); w != 0 || e != api.ErrForm {
			t.Errorf("Encode(%+v) = %#x, %d", x, w, int(e))
		}
	}
	for _, op := range noOperations() {
		refuses(api.Insn{Op: op})
		refuses(api.Insn{Op: op, Rd: 1, Rs1: 2, Rs2: 3, Imm: 4})
	}
	for _, r := range rows() {
		for _, base := range []api.Insn{{Op: r.number}, r.insn(r.room())} {
			for _, v := range registerEdges() {
				for _, x := range []api.Insn{
					{Op: base.Op, Rd: v, Rs1: base.Rs1, Rs2: base.Rs2, Imm: base.Imm},
					{Op: base.Op, Rd: base.Rd, Rs1: v, Rs2: base.Rs2, Imm: base.Imm},
					{Op: base.Op, Rd: base.Rd, Rs1: base.Rs1, Rs2: v, Imm: base.Imm},
				} {
					if !r.valid(x) {
						refuses(x)
					}
				}
			}
			for _, v := range append(immEdges(), r.least-1, r.most+1) {
				x := base
				x.Imm = v
				if !r.valid(x) {
					refuses(x)
				}
			}
		}
	}
}

func TestDecodeOfZero(t *testing.T) {
	if x, e := Decode(0); x != (api.Insn{}) || e != api.ErrForm {
		t.Errorf("%+v, %d", x, int(e))
	}
}

// All 64 numbers of six bits, those of no operation too, with bits where the shape has some and where it has none.
func TestDecodeOverBits(t *testing.T) {
	for op := range uint32(64) {
		for _, low := range lowBits() {
			checkDecode(t, op<<26|low)
		}
	}
}

// Words spread over all 32 bits: multiples of an odd number meet each word once before they come round.
func TestDecodeOverWords(t *testing.T) {
	for i := range uint32(1 << 17) {
		checkDecode(t, i*2654435761)
	}
}

// P2.3

func TestDecodeOfEncodeIsTheInstruction(t *testing.T) {
	for _, r := range rows() {
		for _, x := range r.valids() {
			w, e := Encode(x)
			if e != api.OK {
				t.Fatalf("Encode(%+v): %d", x, int(e))
			}
			if back, e := Decode(w); back != x || e != api.OK {
				t.Fatalf("Decode(Encode(%+v)) = %+v, %d", x, back, int(e))
			}
		}
	}
}

// All numbers of each imm, so that no width and no sign is off by one.
func TestEachImmComesBack(t *testing.T) {
	for _, op := range []int{Addi, Slli, Csrrs, Sw, Blt, Lui} {
		r, _ := rowOf(op)
		for imm := r.least; imm <= r.most; imm++ {
			x := api.Insn{Op: op, Imm: imm}
			w, e := Encode(x)
			if w != r.word(x) || e != api.OK {
				t.Fatalf("Encode(%+v) = %#x, %d", x, w, int(e))
			}
			if back, e := Decode(w); back != x || e != api.OK {
				t.Fatalf("Decode(%#x) = %+v, %d", w, back, int(e))
			}
		}
	}
}

func TestNoTwoHaveOneWord(t *testing.T) {
	seen := map[uint32]api.Insn{}
	for _, r := range rows() {
		for _, x := range r.valids() {
			w, _ := Encode(x)
			if other, ok := seen[w]; ok && other != x {
				t.Fatalf("%+v and %+v have the word %#x", other, x, w)
			}
			seen[w] = x
		}
	}
}
