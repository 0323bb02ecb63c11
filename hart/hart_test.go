package hart

import (
	"fmt"
	"maps"
	"math"
	"math/big"
	"slices"
	"testing"

	"palisade/api"
	"palisade/csr"
	"palisade/insn"
	"palisade/word"
)

const (
	allBits = math.MaxUint64
	highest = 1 << 63
	vector  = 0x200
	start   = 0x1000
)

// edges are numbers at both ends of those of 64 bits, with signs and without, and some between.
var edges = []uint64{0, 1, 2, 3, 7, 8, 63, 64, 65, 0x7fffffff, 0x80000000, 0xffffffff, 1 << 32, 1<<32 + 1, 0x0123456789abcdef, highest - 1, highest, highest + 1, 0xfedcba9876543210, allBits - 1, allBits}

// noMode are numbers that are no mode; some of them would be, cut to fewer bits.
var noMode = []int{math.MinInt, math.MinInt + 1, math.MinInt32, -2, -1, 2, 3, 256, 257, 1 << 32, 1<<32 + 1, math.MaxInt - 1, math.MaxInt}

// asked is what Translate is asked for.
type asked struct {
	at     uint64
	access int
}

// bus is a memory that has all addresses, and keeps account of what it is asked.
type bus struct {
	bytes   map[uint64]byte
	moved   uint64 // the memory's address is the program's and this together
	above   uint64 // told beside each word that is fetched
	traps   map[asked]api.Trap
	noLoad  map[uint64]api.Errno
	noStore map[uint64]api.Errno
	held    uint64
	holds   bool
	calls   []string
}

func (b *bus) note(form string, args ...any) { b.calls = append(b.calls, fmt.Sprintf(form, args...)) }

func (b *bus) Translate(root int, at uint64, access int, user bool) (uint64, api.Trap) {
	b.note("translate %d %#x %d %v", root, at, access, user)
	if trap, ok := b.traps[asked{at, access}]; ok {
		return at ^ allBits, trap
	}
	return at + b.moved, api.Trap{}
}

func (b *bus) Load(at uint64, width int) (uint64, api.Errno) {
	b.note("load %#x %d", at, width)
	if e := b.noLoad[at]; e != api.OK {
		return 0x77, e
	}
	v := b.number(at, width)
	if width == 4 {
		v |= b.above
	}
	return v, api.OK
}

func (b *bus) Store(at uint64, width int, v uint64) api.Errno {
	b.note("store %#x %d %#x", at, width, v)
	if e := b.noStore[at]; e != api.OK {
		return e
	}
	b.keep(at, width, v)
	return api.OK
}

func (b *bus) Hold(at uint64) {
	b.note("hold %#x", at)
	b.held, b.holds = at, true
}

func (b *bus) Held(at uint64) bool {
	b.note("held %#x", at)
	is := b.holds && b.held == at
	b.held, b.holds = 0, false
	return is
}

func (b *bus) number(at uint64, width int) uint64 {
	list := make([]byte, width)
	for i := range list {
		list[i] = b.bytes[at+uint64(i)]
	}
	v, _ := word.Load(list, 0, width)
	return v
}

func (b *bus) keep(at uint64, width int, v uint64) { keep(b.bytes, at, width, v) }

func keep(bytes map[uint64]byte, at uint64, width int, v uint64) {
	for i := range width {
		bytes[at+uint64(i)] = byte(v >> (8 * i))
	}
}

// rig is a hart with its file and a bus.
type rig struct {
	t *testing.T
	r *api.Regs
	f *csr.File
	b *bus
}

// newRig makes one in Kernel, at start, whose registers and control registers differ from one another.
func newRig(t *testing.T) *rig {
	t.Helper()
	g := &rig{t: t, r: &api.Regs{Pc: start, Mode: api.Kernel}, f: csr.New(3), b: &bus{bytes: map[uint64]byte{}, traps: map[asked]api.Trap{}, noLoad: map[uint64]api.Errno{}, noStore: map[uint64]api.Errno{}}}
	for i := range g.r.X {
		g.r.X[i] = uint64(i) * 0x1111111111111111
	}
	for n, v := range map[int]uint64{csr.Vector: vector, csr.Epc: 0x300, csr.Cause: 77, csr.Value: 78, csr.Scratch: 79, csr.Time: 80, csr.Compare: 81} {
		g.f.Set(n, v)
	}
	return g
}

// rigOf makes one whose next instruction is that.
func rigOf(t *testing.T, x api.Insn) *rig {
	t.Helper()
	g := newRig(t)
	g.put(x)
	return g
}

// put lays an instruction where Pc points to, and tells its word.
func (g *rig) put(x api.Insn) uint64 {
	g.t.Helper()
	w, e := insn.Encode(x)
	if e != api.OK {
		g.t.Fatalf("Encode(%+v) = %d", x, int(e))
	}
	g.putWord(w)
	return uint64(w)
}

func (g *rig) putWord(w uint32) { g.b.keep(g.r.Pc+g.b.moved, 4, uint64(w)) }

// state is all that a step may change.
type state struct {
	regs    api.Regs
	control [12]uint64
	bytes   map[uint64]byte
	held    uint64
	holds   bool
}

func (g *rig) state() state {
	s := state{regs: *g.r, bytes: maps.Clone(g.b.bytes), held: g.b.held, holds: g.b.holds}
	for n := range s.control {
		s.control[n] = g.f.Get(n)
	}
	return s
}

func (s *state) keep(at uint64, width int, v uint64) { keep(s.bytes, at, width, v) }

func (s state) same(o state) bool {
	return s.regs == o.regs && s.control == o.control && s.held == o.held && s.holds == o.holds && maps.Equal(s.bytes, o.bytes)
}

// file makes a file with the state's control registers.
func (s *state) file() *csr.File {
	f := csr.New(0)
	for n, v := range s.control {
		f.Set(n, v)
	}
	return f
}

func (s *state) take(f *csr.File) {
	for n := range s.control {
		s.control[n] = f.Get(n)
	}
}

// enter goes into a trap, as the chapter's words say.
func (s *state) enter(trap api.Trap) {
	f := s.file()
	s.regs.Pc, s.regs.Mode = f.Enter(trap, s.regs.Pc, s.regs.Mode)
	s.take(f)
}

// step does a step, and asks what it came to, what has changed, and which calls of the bus it needed.
func (g *rig) step(result Result, want state, name string, args ...any) {
	g.t.Helper()
	g.b.calls = nil
	got, e := Step(g.r, g.f, g.b)
	if got != result || e != api.OK {
		g.t.Errorf(name+": Step = %+v, %d; want %+v", append(args, got, int(e), result)...)
	}
	if now := g.state(); !now.same(want) {
		g.t.Errorf(name+": behind the step:\n%+v\nwant:\n%+v", append(args, now, want)...)
	}
}

// wantCalls asks which calls of the bus the last step needed behind the fetch.
func (g *rig) wantCalls(want ...string) {
	g.t.Helper()
	if got := g.b.calls[min(2, len(g.b.calls)):]; !slices.Equal(got, want) {
		g.t.Errorf("calls of the bus behind the fetch: %q; want %q", got, want)
	}
}

// done steps an instruction that changes rd (none: 0) and goes on to the next.
func (g *rig) done(rd int, v uint64, name string, args ...any) {
	g.t.Helper()
	want := g.state()
	want.set(rd, v)
	want.regs.Pc += 4
	g.step(Result{}, want, name, args...)
}

func (s *state) set(rd int, v uint64) {
	if rd != 0 {
		s.regs.X[rd] = v
	}
}

// trapped steps into a trap.
func (g *rig) trapped(trap api.Trap, name string, args ...any) {
	g.t.Helper()
	want := g.state()
	want.enter(trap)
	g.step(Result{Kind: Trapped, Trap: trap}, want, name, args...)
	if g.r.Pc != vector || g.r.Mode != api.Kernel {
		g.t.Errorf(name+": Pc = %#x, Mode = %d; want the vector in Kernel", append(args, g.r.Pc, g.r.Mode)...)
	}
}

// unchanged steps, and nothing changes.
func (g *rig) unchanged(result Result, name string, args ...any) {
	g.t.Helper()
	g.step(result, g.state(), name, args...)
}

// scatter tells the same numbers in each run.
type scatter uint64

func (s *scatter) next() uint64 {
	*s = *s*6364136223846793005 + 1442695040888963407
	x := uint64(*s)
	return x ^ x>>29
}

func (s *scatter) below(n int) int { return int(s.next() >> 8 % uint64(n)) }

func TestExample(t *testing.T) {
	b := &bus{bytes: map[uint64]byte{}}
	f := csr.New(0)
	f.Set(csr.Vector, vector)
	r := &api.Regs{}
	w, _ := insn.Encode(api.Insn{Op: insn.Addi, Rd: 1, Imm: 5})
	b.keep(0, 4, uint64(w))
	if x, e := Step(r, f, b); x != (Result{Kind: Done}) || e != api.OK {
		t.Errorf("addi x1, x0, 5: %+v, %d", x, int(e))
	}
	if r.X[1] != 5 || r.Pc != 4 {
		t.Errorf("addi x1, x0, 5: X[1] = %d, Pc = %d", r.X[1], r.Pc)
	}
	if x, e := Step(r, f, b); x != (Result{Kind: Trapped, Trap: api.Trap{Cause: api.CauseIllegal}}) || e != api.OK {
		t.Errorf("the word 0: %+v, %d", x, int(e))
	}
	if r.Pc != vector || r.Mode != api.Kernel || f.Get(csr.Epc) != 4 {
		t.Errorf("the word 0: Pc = %#x, Mode = %d, Epc = %d", r.Pc, r.Mode, f.Get(csr.Epc))
	}
}

// reckoned tells what an operation comes to, by whole numbers.
func reckoned(op int, a, b uint64) uint64 {
	x, y := new(big.Int).SetUint64(a), new(big.Int).SetUint64(b)
	z := new(big.Int)
	switch op {
	case insn.Add, insn.Addi:
		z.Add(x, y)
	case insn.Sub:
		z.Sub(x, y)
	case insn.And, insn.Andi:
		z.And(x, y)
	case insn.Or, insn.Ori:
		z.Or(x, y)
	case insn.Xor, insn.Xori:
		z.Xor(x, y)
	case insn.Mul:
		z.Mul(x, y)
	case insn.Sll, insn.Slli:
		z.Lsh(x, uint(b%64))
	case insn.Srl, insn.Srli:
		z.Rsh(x, uint(b%64))
	case insn.Sra, insn.Srai:
		z.Rsh(big.NewInt(int64(a)), uint(b%64))
	case insn.Slt, insn.Slti:
		return map[bool]uint64{true: 1}[int64(a) < int64(b)]
	case insn.Sltu:
		return map[bool]uint64{true: 1}[a < b]
	case insn.Divu:
		if b == 0 {
			return allBits
		}
		z.Div(x, y)
	case insn.Remu:
		if b == 0 {
			return a
		}
		z.Mod(x, y)
	}
	return z.And(z, new(big.Int).SetUint64(allBits)).Uint64()
}

var threes = []int{insn.Add, insn.Sub, insn.And, insn.Or, insn.Xor, insn.Sll, insn.Srl, insn.Sra, insn.Slt, insn.Sltu, insn.Mul, insn.Divu, insn.Remu}

var immediates = []int{insn.Addi, insn.Andi, insn.Ori, insn.Xori, insn.Slli, insn.Srli, insn.Srai, insn.Slti}

func TestReckonedByHand(t *testing.T) {
	for _, c := range []struct {
		op         int
		a, b, want uint64
	}{
		{insn.Add, 2, 3, 5},
		{insn.Add, allBits, 1, 0},
		{insn.Add, highest, highest, 0},
		{insn.Sub, 2, 3, allBits},
		{insn.Sub, 0, highest, highest},
		{insn.And, 12, 10, 8},
		{insn.Or, 12, 10, 14},
		{insn.Xor, 12, 10, 6},
		{insn.Sll, 1, 63, highest},
		{insn.Sll, 3, 65, 6},
		{insn.Srl, highest, 63, 1},
		{insn.Srl, allBits, 64, allBits},
		{insn.Sra, highest, 63, allBits},
		{insn.Sra, 0x40, 2, 0x10},
		{insn.Sra, allBits - 7, 1 << 40, allBits - 7},
		{insn.Slt, allBits, 0, 1},
		{insn.Slt, 0, allBits, 0},
		{insn.Slt, highest, highest - 1, 1},
		{insn.Slt, 4, 4, 0},
		{insn.Sltu, allBits, 0, 0},
		{insn.Sltu, 0, allBits, 1},
		{insn.Sltu, 4, 4, 0},
		{insn.Mul, 6, 7, 42},
		{insn.Mul, allBits, allBits, 1},
		{insn.Mul, 1 << 32, 1 << 32, 0},
		{insn.Divu, 7, 2, 3},
		{insn.Divu, 7, 0, allBits},
		{insn.Divu, allBits, allBits, 1},
		{insn.Remu, 7, 2, 1},
		{insn.Remu, 7, 0, 7},
		{insn.Remu, allBits, highest, highest - 1},
	} {
		g := rigOf(t, api.Insn{Op: c.op, Rd: 3, Rs1: 1, Rs2: 2})
		g.r.X[1], g.r.X[2] = c.a, c.b
		g.done(3, c.want, "operation %d of %#x, %#x", c.op, c.a, c.b)
	}
	for _, c := range []struct {
		op      int
		a       uint64
		s       int
		want    uint64
		comment string
	}{
		{insn.Addi, 1, -2, allBits, "1 - 2"},
		{insn.Addi, allBits, 8191, 8190, "over the end"},
		{insn.Andi, 0x0123456789abcdef, -16, 0x0123456789abcde0, "the sign fills"},
		{insn.Ori, 1, -8192, 0xffffffffffffe001, "the sign fills"},
		{insn.Xori, 0xf0, -1, 0xffffffffffffff0f, "not"},
		{insn.Slli, 1, 63, highest, "the highest"},
		{insn.Srli, allBits, 63, 1, "the highest"},
		{insn.Srai, highest, 63, allBits, "with its sign"},
		{insn.Slti, allBits - 1, -1, 1, "-2 is below -1"},
		{insn.Slti, 0, -1, 0, "0 is not below -1"},
		{insn.Slti, highest, -8192, 1, "the least"},
	} {
		g := rigOf(t, api.Insn{Op: c.op, Rd: 3, Rs1: 1, Imm: c.s})
		g.r.X[1] = c.a
		g.done(3, c.want, "operation %d of %#x, %d (%s)", c.op, c.a, c.s, c.comment)
	}
}

func TestReckonedOfRegisters(t *testing.T) {
	for _, op := range threes {
		for _, a := range edges {
			for _, b := range edges {
				for _, rd := range []int{0, 1, 2, 3, 15} {
					g := rigOf(t, api.Insn{Op: op, Rd: rd, Rs1: 1, Rs2: 2})
					g.r.X[1], g.r.X[2] = a, b
					g.done(rd, reckoned(op, a, b), "operation %d of %#x, %#x into x%d", op, a, b, rd)
				}
			}
			for _, rd := range []int{0, 4, 5} {
				g := rigOf(t, api.Insn{Op: op, Rd: rd, Rs1: 4, Rs2: 4})
				g.r.X[4] = a
				g.done(rd, reckoned(op, a, a), "operation %d of %#x and itself into x%d", op, a, rd)
			}
			g := rigOf(t, api.Insn{Op: op, Rd: 15, Rs1: 0, Rs2: 14})
			g.r.X[14] = a
			g.done(15, reckoned(op, 0, a), "operation %d of x0, %#x", op, a)
			g = rigOf(t, api.Insn{Op: op, Rd: 15, Rs1: 14, Rs2: 0})
			g.r.X[14] = a
			g.done(15, reckoned(op, a, 0), "operation %d of %#x, x0", op, a)
		}
	}
}

func TestReckonedWithImm(t *testing.T) {
	for _, op := range immediates {
		list := []int{-8192, -8191, -4096, -2, -1, 0, 1, 2, 63, 64, 4095, 8191}
		if op == insn.Slli || op == insn.Srli || op == insn.Srai {
			list = []int{0, 1, 2, 31, 32, 33, 62, 63}
		}
		for _, s := range list {
			for _, a := range edges {
				for _, rd := range []int{0, 1, 3, 15} {
					g := rigOf(t, api.Insn{Op: op, Rd: rd, Rs1: 1, Imm: s})
					g.r.X[1] = a
					g.done(rd, reckoned(op, a, uint64(s)), "operation %d of %#x, %d into x%d", op, a, s, rd)
				}
			}
			g := rigOf(t, api.Insn{Op: op, Rd: 2, Imm: s})
			g.done(2, reckoned(op, 0, uint64(s)), "operation %d of x0, %d", op, s)
		}
	}
}

func TestLui(t *testing.T) {
	for s, want := range map[int]uint64{0: 0, 1: 4096, 5: 20480, 1<<17 - 1: 0x1ffff000, -1: 0xfffffffffffff000, -1 << 17: 0xffffffffe0000000} {
		for _, rd := range []int{0, 1, 15} {
			g := rigOf(t, api.Insn{Op: insn.Lui, Rd: rd, Imm: s})
			g.done(rd, want, "lui x%d, %d", rd, s)
		}
	}
}

func TestPcGrowsModulo(t *testing.T) {
	for pc, want := range map[uint64]uint64{0: 4, 4: 8, highest - 4: highest, highest: highest + 4, allBits - 3: 0, allBits - 7: allBits - 3} {
		for _, x := range []api.Insn{{Op: insn.Add, Rd: 1}, {Op: insn.Addi, Rd: 1}, {Op: insn.Fence}, {Op: insn.Sfence}, {Op: insn.Ld, Rd: 1}, {Op: insn.Sd, Imm: 64}, {Op: insn.Bne, Imm: 5}, {Op: insn.Csrrs, Rd: 1, Imm: csr.Scratch}} {
			g := newRig(t)
			g.r.Pc = pc
			g.put(x)
			if _, e := Step(g.r, g.f, g.b); e != api.OK || g.r.Pc != want {
				t.Errorf("%+v at %#x: %d, Pc = %#x; want %#x", x, pc, int(e), g.r.Pc, want)
			}
		}
	}
}

var branches = []int{insn.Beq, insn.Bne, insn.Blt, insn.Bge, insn.Bltu, insn.Bgeu}

// taken tells whether a branch is.
func taken(op int, a, b uint64) bool {
	switch op {
	case insn.Beq:
		return a == b
	case insn.Bne:
		return a != b
	case insn.Blt:
		return int64(a) < int64(b)
	case insn.Bge:
		return int64(a) >= int64(b)
	case insn.Bltu:
		return a < b
	}
	return a >= b
}

func TestBranches(t *testing.T) {
	for _, op := range branches {
		for _, a := range edges {
			for _, b := range edges {
				for _, s := range []int{-8192, -2, -1, 0, 1, 3, 8191} {
					g := rigOf(t, api.Insn{Op: op, Rs1: 1, Rs2: 2, Imm: s})
					g.r.X[1], g.r.X[2] = a, b
					want := g.state()
					want.regs.Pc += 4
					if taken(op, a, b) {
						want.regs.Pc = uint64(start + 4*s)
					}
					g.step(Result{}, want, "branch %d of %#x, %#x by %d", op, a, b, s)
					g.wantCalls()
				}
			}
			g := rigOf(t, api.Insn{Op: op, Rs1: 5, Rs2: 5, Imm: 9})
			g.r.X[5] = a
			want := g.state()
			want.regs.Pc += 4
			if op == insn.Beq || op == insn.Bge || op == insn.Bgeu {
				want.regs.Pc = start + 36
			}
			g.step(Result{}, want, "branch %d of %#x and itself", op, a)
		}
	}
}

func TestBranchesByHand(t *testing.T) {
	for _, c := range []struct {
		op   int
		a, b uint64
		want bool
	}{
		{insn.Blt, allBits, 0, true}, {insn.Blt, 0, allBits, false}, {insn.Blt, 1, 1, false},
		{insn.Bge, allBits, 0, false}, {insn.Bge, 0, allBits, true}, {insn.Bge, 1, 1, true},
		{insn.Bltu, allBits, 0, false}, {insn.Bltu, 0, allBits, true}, {insn.Bltu, 1, 1, false},
		{insn.Bgeu, allBits, 0, true}, {insn.Bgeu, 0, allBits, false}, {insn.Bgeu, 1, 1, true},
		{insn.Beq, 1, 1, true}, {insn.Beq, 1, 1 + 1<<32, false}, {insn.Bne, 1, 1, false}, {insn.Bne, 1, 1 + 1<<32, true},
	} {
		g := rigOf(t, api.Insn{Op: c.op, Rs1: 1, Rs2: 2, Imm: 10})
		g.r.X[1], g.r.X[2] = c.a, c.b
		want := g.state()
		want.regs.Pc = start + 4
		if c.want {
			want.regs.Pc = start + 40
		}
		g.step(Result{}, want, "branch %d of %#x, %#x", c.op, c.a, c.b)
	}
}

func TestJumpsOverTheEnds(t *testing.T) {
	for _, c := range []struct {
		pc   uint64
		s    int
		want uint64
	}{
		{0, -1, allBits - 3}, {0, -8192, allBits - 32767}, {4, -2, allBits - 3}, {allBits - 3, 1, 0}, {allBits - 3, 8191, 32760}, {allBits - 3, 2, 4}, {highest - 4, 1, highest}, {highest, -1, highest - 4}, {0, 0, 0}, {allBits - 3, 0, allBits - 3},
	} {
		g := newRig(t)
		g.r.Pc = c.pc
		g.put(api.Insn{Op: insn.Beq, Rs1: 1, Rs2: 1, Imm: c.s})
		want := g.state()
		want.regs.Pc = c.want
		g.step(Result{}, want, "beq at %#x by %d", c.pc, c.s)

		g = newRig(t)
		g.r.Pc = c.pc
		g.put(api.Insn{Op: insn.Jal, Rd: 1, Imm: c.s})
		want = g.state()
		want.regs.X[1], want.regs.Pc = c.pc+4, c.want
		g.step(Result{}, want, "jal at %#x by %d", c.pc, c.s)
	}
}

func TestJal(t *testing.T) {
	for _, s := range []int{-1 << 17, -1024, -1, 0, 1, 2, 1<<17 - 1} {
		for _, rd := range []int{0, 1, 15} {
			g := rigOf(t, api.Insn{Op: insn.Jal, Rd: rd, Imm: s})
			want := g.state()
			want.set(rd, start+4)
			want.regs.Pc = start + 4*uint64(s)
			g.step(Result{}, want, "jal x%d, %d", rd, s)
			g.wantCalls()
		}
	}
}

func TestJalr(t *testing.T) {
	for _, c := range []struct {
		a    uint64
		s    int
		want uint64
	}{
		{0x400, 0, 0x400}, {0x400, 8, 0x408}, {0x400, -4, 0x3fc}, {0x401, 0, 0x400}, {0x402, 1, 0x400}, {0x403, 0, 0x400}, {0x403, 1, 0x404},
		{0, -1, allBits - 3}, {0, -4, allBits - 3}, {allBits, 1, 0}, {allBits, 0, allBits - 3}, {allBits, 8191, 8188}, {highest, -8192, highest - 8192}, {0, 8191, 8188},
	} {
		for _, rd := range []int{0, 1, 2, 15} {
			g := rigOf(t, api.Insn{Op: insn.Jalr, Rd: rd, Rs1: 1, Imm: c.s})
			g.r.X[1] = c.a
			want := g.state()
			want.set(rd, start+4)
			want.regs.Pc = c.want
			g.step(Result{}, want, "jalr x%d, %d(%#x)", rd, c.s, c.a)
			g.wantCalls()
		}
	}
	g := rigOf(t, api.Insn{Op: insn.Jalr, Rd: 0, Rs1: 0, Imm: 0x123})
	want := g.state()
	want.regs.Pc = 0x120
	g.step(Result{}, want, "jalr x0, 0x123(x0)")
	g = newRig(t)
	g.r.Pc = allBits - 3
	g.put(api.Insn{Op: insn.Jalr, Rd: 7, Rs1: 0, Imm: 16})
	want = g.state()
	want.regs.X[7], want.regs.Pc = 0, 16
	g.step(Result{}, want, "jalr at the last address")
}
