package hart

import (
	"maps"
	"math/bits"
	"testing"

	"palisade/api"
	"palisade/csr"
	"palisade/entry"
	"palisade/insn"
)

// model is the chapter's table once more, over a state, written down without the package.
type model struct {
	state
	b *bus
}

func (m *model) trap(trap api.Trap) Result {
	m.enter(trap)
	return Result{Kind: Trapped, Trap: trap}
}

func (m *model) refuse(trap api.Trap) Result {
	if trap.Cause >= 20 {
		return Result{Kind: Beyond, Trap: trap}
	}
	return m.trap(trap)
}

// translated tells what the bus would, without its account.
func (m *model) translated(at uint64, access int) (uint64, *api.Trap) {
	if trap, ok := m.b.traps[asked{at, access}]; ok {
		return 0, &trap
	}
	return at + m.b.moved, nil
}

func (m *model) load(at uint64, width int) (uint64, bool) {
	if m.b.noLoad[at] != api.OK {
		return 0, false
	}
	v := uint64(0)
	for i := width - 1; i >= 0; i-- {
		v = v<<8 | uint64(m.bytes[at+uint64(i)])
	}
	if width == 4 {
		v = uint64(int64(int32(v)))
	}
	return v, true
}

func (m *model) store(at uint64, width int, v uint64) bool {
	if m.b.noStore[at] != api.OK {
		return false
	}
	m.keep(at, width, v)
	return true
}

func (m *model) step() Result {
	if cause, due := m.file().Due(m.regs.Mode); due {
		return m.trap(api.Trap{Cause: cause})
	}
	pc := m.regs.Pc
	if pc&3 != 0 {
		return m.trap(api.Trap{Cause: 0, Value: pc})
	}
	at, trap := m.translated(pc, 0)
	if trap != nil {
		return m.refuse(*trap)
	}
	v, ok := m.load(at, 4)
	if !ok {
		return m.trap(api.Trap{Cause: 12, Value: pc})
	}
	w := v & 0xffffffff
	x, e := insn.Decode(uint32(w))
	if e != api.OK || m.regs.Mode == api.User && isOneOf(x.Op, kernels) {
		return m.trap(api.Trap{Cause: 2, Value: w})
	}
	a, b, s := m.regs.X[x.Rs1], m.regs.X[x.Rs2], uint64(x.Imm)
	switch {
	case x.Op <= insn.Remu:
		m.set(x.Rd, reckoned(x.Op, a, b))
	case x.Op <= insn.Slti:
		m.set(x.Rd, reckoned(x.Op, a, s))
	case x.Op == insn.Lui:
		m.set(x.Rd, s*4096)
	case x.Op <= insn.Sb, x.Op >= insn.Lr && x.Op <= insn.Amoswp:
		if trap := m.access(x, a+s, b); trap != nil {
			return m.refuse(*trap)
		}
	case x.Op <= insn.Bgeu:
		if taken(x.Op, a, b) {
			m.regs.Pc += 4*s - 4
		}
	case x.Op == insn.Jal:
		m.set(x.Rd, pc+4)
		m.regs.Pc += 4*s - 4
	case x.Op == insn.Jalr:
		m.set(x.Rd, pc+4)
		m.regs.Pc = (a+s)/4*4 - 4
	default:
		return m.system(x, w)
	}
	m.regs.Pc += 4
	return Result{}
}

// access does what loads, stores and holds.
func (m *model) access(x api.Insn, a, b uint64) *api.Trap {
	width := map[int]uint64{insn.Lw: 4, insn.Sw: 4, insn.Lb: 1, insn.Sb: 1}[x.Op]
	if width == 0 {
		width = 8
	}
	stores := x.Op >= insn.Sd && x.Op != insn.Lr
	access, align, fault := entry.Load, 4, 13
	if stores {
		access, align, fault = entry.Store, 6, 15
	}
	if a&(width-1) != 0 {
		return &api.Trap{Cause: align, Value: a}
	}
	at, trap := m.translated(a, access)
	if trap != nil {
		return trap
	}
	if x.Op == insn.Sc {
		is := m.holds && m.held == at
		m.held, m.holds = 0, false
		if !is {
			m.set(x.Rd, 1)
			return nil
		}
	}
	v, loaded := m.load(at, int(width))
	if !loaded && !isOneOf(x.Op, []int{insn.Sd, insn.Sw, insn.Sb, insn.Sc}) {
		return &api.Trap{Cause: fault, Value: a}
	}
	if x.Op == insn.Amoadd {
		b += v
	}
	if stores && !m.store(at, int(width), b) {
		return &api.Trap{Cause: fault, Value: a}
	}
	switch x.Op {
	case insn.Lr:
		m.held, m.holds = at, true
	case insn.Sc:
		v = 0
	case insn.Sd, insn.Sw, insn.Sb:
		return nil
	}
	m.set(x.Rd, v)
	return nil
}

// system does what is left.
func (m *model) system(x api.Insn, w uint64) Result {
	result := Result{}
	switch x.Op {
	case insn.Sfence:
		result.Fence = true
	case insn.Ecall:
		if m.regs.Mode == api.User {
			return m.trap(api.Trap{Cause: 8})
		}
		return Result{Kind: Call, Trap: api.Trap{Cause: 9}}
	case insn.Sret:
		f := m.file()
		m.regs.Pc, m.regs.Mode = f.Leave()
		m.take(f)
		return result
	case insn.Wfi:
		if m.control[csr.Enable]&m.control[csr.Pending]&0x222 == 0 {
			return Result{Kind: Waits}
		}
	case insn.Csrrw, insn.Csrrs, insn.Csrrc:
		return controlled(&m.state, x, w)
	}
	m.regs.Pc += 4
	return result
}

// anInsn tells an instruction that may be, of any operation.
func (s *scatter) anInsn() api.Insn {
	for {
		x := api.Insn{Op: 1 + s.below(48), Rd: s.below(16), Rs1: s.below(16), Rs2: s.below(16), Imm: int(int64(s.next()) >> (46 + s.below(18)))}
		if s.below(2) == 0 {
			x.Imm = s.below(16)
		}
		shape, _ := insn.Shape(x.Op)
		switch shape {
		case insn.Three:
			x.Imm = 0
			if x.Op == insn.Lr {
				x.Rs2 = 0
			}
		case insn.Two:
			x.Rs2 = 0
		case insn.Stores, insn.Branch:
			x.Rd = 0
		case insn.Long:
			x.Rs1, x.Rs2 = 0, 0
		case insn.One:
			x = api.Insn{Op: x.Op, Rs1: x.Rs1}
		case insn.None:
			x = api.Insn{Op: x.Op}
		}
		if insn.Valid(x) {
			return x
		}
	}
}

// aNumber tells one at the edges, one near the data, or any.
func (s *scatter) aNumber() uint64 {
	switch s.below(4) {
	case 0:
		return edges[s.below(len(edges))]
	case 1:
		return data + uint64(s.below(64))
	case 2:
		return data + 8*uint64(s.below(8))
	}
	return s.next() >> s.below(64)
}

// aRig tells one about which nothing is certain.
func (s *scatter) aRig(t *testing.T) *rig {
	g := newRig(t)
	for i := 1; i < 16; i++ {
		g.r.X[i] = s.aNumber()
	}
	for n := range 12 {
		if s.below(3) == 0 {
			g.f.Set(n, s.aNumber())
		}
	}
	switch s.below(4) {
	case 0, 1:
		g.f.Set(csr.Enable, 0)
	case 2:
		g.f.Set(csr.Status, 0)
		g.f.Set(csr.Enable, s.next())
		g.f.Set(csr.Pending, s.next())
	}
	g.r.Mode = s.below(2)
	g.b.moved = []uint64{0, 8, 0x70000, allBits - 7}[s.below(4)]
	for range 32 {
		g.b.keep(data+uint64(s.below(128)), 1, s.next())
	}
	for range s.below(12) {
		at := data + 8*uint64(s.below(8))
		trap := api.Trap{Cause: s.below(24), Value: at, Guest: s.next()}
		g.b.traps[asked{at, 1 + s.below(2)}] = trap
		g.b.noLoad[data+g.b.moved+8*uint64(s.below(8))] = api.ErrBound
		g.b.noStore[data+g.b.moved+8*uint64(s.below(8))] = api.ErrBound
	}
	if s.below(16) == 0 {
		g.b.traps[asked{start, 0}] = api.Trap{Cause: s.below(24), Value: start}
	}
	if s.below(16) == 0 {
		g.b.noLoad[start+g.b.moved] = api.Errno(s.next() | 1)
	}
	g.b.held, g.b.holds = data+g.b.moved+8*uint64(s.below(8)), s.below(2) == 0
	if s.below(64) == 0 {
		g.r.Pc += uint64(s.below(4))
	}
	return g
}

func TestModel(t *testing.T) {
	s := scatter(9)
	kinds := map[int]int{}
	ops := map[int]int{}
	for range 60000 {
		g := s.aRig(t)
		op := 0
		if s.below(32) == 0 {
			g.putWord(uint32(s.next()))
		} else {
			x := s.anInsn()
			op = x.Op
			g.put(x)
		}
		m := &model{state: g.state(), b: g.b}
		was := g.state()
		// The hart's X[0] is 0 ahead of the step, whatever is written there.
		if s.below(2) == 0 {
			g.r.X[0] = s.aNumber()
		}
		result := m.step()
		g.step(result, m.state, "the operation %d", op)
		if t.Failed() {
			t.Fatalf("from %+v", was)
		}
		kinds[result.Kind]++
		if result.Kind == Done {
			ops[op]++
		}
		wantApart(t, was, g.state(), result)
	}
	for kind := Done; kind <= Waits; kind++ {
		if kinds[kind] < 50 {
			t.Errorf("only %d steps came to %d", kinds[kind], kind)
		}
	}
	for op := insn.Add; op <= insn.Csrrc; op++ {
		if ops[op] < 50 && op != insn.Ecall {
			t.Errorf("the operation %d was done only %d times", op, ops[op])
		}
	}
}

// wantApart asks for P9.2, whatever the step was.
func wantApart(t *testing.T, was, now state, result Result) {
	t.Helper()
	switch result.Kind {
	case Call, Beyond, Waits:
		if !was.same(now) {
			t.Errorf("a step that came to %d changed %+v to %+v", result.Kind, was, now)
		}
	case Done:
		if was.regs.Mode == api.User && (now.regs.Mode != api.User || now.control != was.control) {
			t.Errorf("a step from User changed %+v to %+v", was, now)
		}
	case Trapped:
		if now.regs.X != was.regs.X || !maps.Equal(now.bytes, was.bytes) {
			t.Errorf("a trap changed %+v to %+v", was, now)
		}
	}
	if now.regs.X[0] != 0 {
		t.Errorf("X[0] = %d", now.regs.X[0])
	}
}

// Programs of many steps: states come of states, with interrupts between.
func TestModelOfPrograms(t *testing.T) {
	s := scatter(21)
	for range 300 {
		g := newRig(t)
		g.f.Set(csr.Vector, start+4*uint64(s.below(64)))
		for i := range uint64(64) {
			w, _ := insn.Encode(s.anInsn())
			g.b.keep(start+4*i, 4, uint64(w))
		}
		for i := 1; i < 16; i++ {
			g.r.X[i] = []uint64{start + 4*uint64(s.below(64)), data + 8*uint64(s.below(8)), s.next() >> s.below(64)}[s.below(3)]
		}
		m := &model{state: g.state(), b: g.b}
		for range 100 {
			if s.below(8) == 0 {
				g.f.Line([]int{csr.Soft, csr.Timer, csr.Device}[s.below(3)], s.below(2) == 0)
				m.control[csr.Pending] = g.f.Get(csr.Pending)
			}
			result := m.step()
			g.step(result, m.state, "in a program")
			if t.Failed() {
				return
			}
			if result.Kind != Done {
				g.r.Pc = start + 4*uint64(s.below(64))
				g.r.Mode = s.below(2)
				m.regs = *g.r
			}
			if bits.Len64(g.r.Pc) > 20 {
				break
			}
		}
	}
}
