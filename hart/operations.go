package hart

import (
	"palisade/api"
	"palisade/csr"
	"palisade/entry"
	"palisade/insn"
	"palisade/word"
)

// The kinds of word.Shift.
const (
	toLeft = iota
	toRight
	toRightWithSign
)

// pair is the two numbers that an operation is given: rs1, and rs2 or what stands in its place.
type pair struct{ a, b uint64 }

// perform does the instruction.
func (s *step) perform() Result {
	op := s.insn.Op
	if holds, ok := conditions()[op]; ok {
		return s.jumpIf(holds(s.operands()))
	}
	if reckon, ok := reckonings()[op]; ok {
		return s.tell(reckon(s.operands()))
	}
	return actions()[op](s)
}

// reckonings tells what those operations put into rd that need nothing but their operands.
func reckonings() map[int]func(pair) uint64 {
	return map[int]func(pair) uint64{
		insn.Add:  pair.plus,
		insn.Sub:  pair.minus,
		insn.And:  pair.and,
		insn.Or:   pair.or,
		insn.Xor:  pair.xor,
		insn.Sll:  pair.shiftedLeft,
		insn.Srl:  pair.shiftedRight,
		insn.Sra:  pair.shiftedWithSign,
		insn.Slt:  pair.isBelowWithSigns,
		insn.Sltu: pair.isBelow,
		insn.Mul:  pair.times,
		insn.Divu: pair.quotient,
		insn.Remu: pair.rest,
		insn.Addi: pair.plus,
		insn.Andi: pair.and,
		insn.Ori:  pair.or,
		insn.Xori: pair.xor,
		insn.Slli: pair.shiftedLeft,
		insn.Srli: pair.shiftedRight,
		insn.Srai: pair.shiftedWithSign,
		insn.Slti: pair.isBelowWithSigns,
		insn.Lui:  pair.upper,
	}
}

// conditions tells when branches are taken.
func conditions() map[int]func(pair) bool {
	return map[int]func(pair) bool{
		insn.Beq:  pair.same,
		insn.Bne:  pair.other,
		insn.Blt:  pair.belowWithSigns,
		insn.Bge:  pair.notBelowWithSigns,
		insn.Bltu: pair.below,
		insn.Bgeu: pair.notBelow,
	}
}

// actions tells what all other operations do.
func actions() map[int]func(*step) Result {
	return map[int]func(*step) Result{
		insn.Ld:     (*step).loads,
		insn.Lw:     (*step).loads,
		insn.Lb:     (*step).loads,
		insn.Sd:     (*step).stores,
		insn.Sw:     (*step).stores,
		insn.Sb:     (*step).stores,
		insn.Jal:    (*step).jumps,
		insn.Jalr:   (*step).jumpsToRegister,
		insn.Lr:     (*step).loadsAndHolds,
		insn.Sc:     (*step).storesIfHeld,
		insn.Amoadd: (*step).addsThere,
		insn.Amoswp: (*step).swapsThere,
		insn.Fence:  (*step).goOn,
		insn.Ecall:  (*step).calls,
		insn.Sret:   (*step).returns,
		insn.Wfi:    (*step).waits,
		insn.Sfence: (*step).fences,
		insn.Csrrw:  (*step).controls,
		insn.Csrrs:  (*step).controls,
		insn.Csrrc:  (*step).controls,
	}
}

// operands tells the numbers of an operation that has nothing but two.
func (s *step) operands() pair {
	shape, _ := insn.Shape(s.insn.Op)
	p := pair{a: s.register(s.insn.Rs1), b: uint64(s.insn.Imm)}
	if shape == insn.Three || shape == insn.Branch {
		p.b = s.register(s.insn.Rs2)
	}
	return p
}

func (p pair) plus() uint64            { return p.a + p.b }
func (p pair) minus() uint64           { return p.a - p.b }
func (p pair) and() uint64             { return p.a & p.b }
func (p pair) or() uint64              { return p.a | p.b }
func (p pair) xor() uint64             { return p.a ^ p.b }
func (p pair) times() uint64           { return p.a * p.b }
func (p pair) upper() uint64           { return p.b << 12 }
func (p pair) second() uint64          { return p.b }
func (p pair) shiftedLeft() uint64     { return word.Shift(toLeft, p.a, p.b) }
func (p pair) shiftedRight() uint64    { return word.Shift(toRight, p.a, p.b) }
func (p pair) shiftedWithSign() uint64 { return word.Shift(toRightWithSign, p.a, p.b) }

func (p pair) quotient() uint64 {
	q, _ := word.Divide(p.a, p.b)
	return q
}

func (p pair) rest() uint64 {
	_, r := word.Divide(p.a, p.b)
	return r
}

func (p pair) isBelow() uint64          { return oneIf(p.below()) }
func (p pair) isBelowWithSigns() uint64 { return oneIf(p.belowWithSigns()) }

func (p pair) same() bool              { return p.a == p.b }
func (p pair) other() bool             { return p.a != p.b }
func (p pair) below() bool             { return word.Less(p.a, p.b, false) }
func (p pair) notBelow() bool          { return !p.below() }
func (p pair) belowWithSigns() bool    { return word.Less(p.a, p.b, true) }
func (p pair) notBelowWithSigns() bool { return !p.belowWithSigns() }

func oneIf(is bool) uint64 {
	if is {
		return 1
	}
	return 0
}

// jump tells the address that lies s instructions on.
func (s *step) jump() uint64 { return s.regs.Pc + insnBytes*uint64(s.insn.Imm) }

func (s *step) jumpIf(is bool) Result {
	if !is {
		return s.goOn()
	}
	return s.goTo(s.jump())
}

func (s *step) jumps() Result {
	s.put(s.following())
	return s.goTo(s.jump())
}

func (s *step) jumpsToRegister() Result {
	// rd may be the register that is jumped to: it is read first.
	to := s.operands().plus() &^ (insnBytes - 1)
	s.put(s.following())
	return s.goTo(to)
}

func (s *step) loads() Result {
	_, v, trap := s.take(entry.Load)
	if trap != (api.Trap{}) {
		return s.refused(trap)
	}
	return s.tell(v)
}

func (s *step) stores() Result {
	to, trap := s.reach(entry.Store)
	if trap != (api.Trap{}) {
		return s.refused(trap)
	}
	if trap := s.store(to, s.register(s.insn.Rs2)); trap != (api.Trap{}) {
		return s.refused(trap)
	}
	return s.goOn()
}

func (s *step) loadsAndHolds() Result {
	from, v, trap := s.take(entry.Load)
	if trap != (api.Trap{}) {
		return s.refused(trap)
	}
	s.bus.Hold(from.at)
	return s.tell(v)
}

func (s *step) storesIfHeld() Result {
	to, trap := s.reach(entry.Store)
	if trap != (api.Trap{}) {
		return s.refused(trap)
	}
	if !s.bus.Held(to.at) {
		return s.tell(1)
	}
	if trap := s.store(to, s.register(s.insn.Rs2)); trap != (api.Trap{}) {
		return s.refused(trap)
	}
	return s.tell(0)
}

func (s *step) addsThere() Result  { return s.change(pair.plus) }
func (s *step) swapsThere() Result { return s.change(pair.second) }

// change puts in the place of a number what comes of it and rs2, and tells the number.
func (s *step) change(become func(pair) uint64) Result {
	there, was, trap := s.take(entry.Store)
	if trap != (api.Trap{}) {
		return s.refused(trap)
	}
	v := become(pair{a: was, b: s.register(s.insn.Rs2)})
	if trap := s.store(there, v); trap != (api.Trap{}) {
		return s.refused(trap)
	}
	return s.tell(was)
}

func (s *step) calls() Result {
	if s.fromUser() {
		return s.enter(api.Trap{Cause: api.CauseUser})
	}
	return Result{Kind: Call, Trap: api.Trap{Cause: api.CauseKernel}}
}

func (s *step) returns() Result {
	pc, mode := s.file.Leave()
	s.regs.Mode = mode
	return s.goTo(pc)
}

func (s *step) waits() Result {
	if !s.file.Wakes() {
		return Result{Kind: Waits}
	}
	return s.goOn()
}

func (s *step) fences() Result {
	result := s.goOn()
	result.Fence = true
	return result
}

// controls reads a control register, and writes it, if the instruction does.
func (s *step) controls() Result {
	was, e := s.file.Read(s.insn.Imm, s.regs.Mode)
	if e != api.OK {
		return s.illegal()
	}
	var fence, timer bool
	if v, writes := s.written(was); writes {
		if fence, timer, e = s.write(v); e != api.OK {
			return s.illegal()
		}
	}
	result := s.tell(was)
	result.Fence, result.Timer = fence, timer
	return result
}

// written tells what the instruction writes into a control register that was a number; false: it writes nothing.
func (s *step) written(was uint64) (v uint64, writes bool) {
	bits := s.register(s.insn.Rs1)
	switch s.insn.Op {
	case insn.Csrrs:
		return was | bits, s.insn.Rs1 != 0
	case insn.Csrrc:
		return was &^ bits, s.insn.Rs1 != 0
	}
	return bits, true
}

// write writes the instruction's control register. Compare is not the hart's to write: whoever steps it learns of it, and sees to the timer.
func (s *step) write(v uint64) (fence, timer bool, e api.Errno) {
	n := s.insn.Imm
	e = s.file.Write(n, s.regs.Mode, v)
	if e == api.ErrBusy {
		return false, true, s.file.Set(n, v)
	}
	return n == csr.Satp, false, e
}
