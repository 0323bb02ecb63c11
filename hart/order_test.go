package hart

import (
	"fmt"
	"math"
	"testing"

	"palisade/api"
	"palisade/csr"
	"palisade/entry"
	"palisade/insn"
)

// each is an instruction of each operation.
func each() []api.Insn {
	var list []api.Insn
	for op := insn.Add; op <= insn.Csrrc; op++ {
		x := api.Insn{Op: op}
		shape, _ := insn.Shape(op)
		switch shape {
		case insn.Three:
			x.Rd, x.Rs1, x.Rs2 = 3, 1, 2
		case insn.Two:
			x.Rd, x.Rs1, x.Imm = 3, 1, csr.Scratch
		case insn.Stores, insn.Branch:
			x.Rs1, x.Rs2, x.Imm = 1, 2, 8
		case insn.Long:
			x.Rd, x.Imm = 3, 7
		case insn.One:
			x.Rs1 = 1
		}
		if op == insn.Lr {
			x.Rs2 = 0
		}
		if op == insn.Ld || op == insn.Lw || op == insn.Lb {
			x.Imm = 8
		}
		list = append(list, x)
	}
	return list
}

var kernels = []int{insn.Sret, insn.Wfi, insn.Sfence, insn.Csrrw, insn.Csrrs, insn.Csrrc}

func isOneOf(op int, list []int) bool {
	for _, o := range list {
		if o == op {
			return true
		}
	}
	return false
}

func TestFromUser(t *testing.T) {
	if n := len(each()); n != 48 {
		t.Fatalf("%d operations", n)
	}
	for _, x := range each() {
		g := newRig(t)
		w := g.put(x)
		g.r.Mode = api.User
		g.r.X[1] = data
		g.f.Set(csr.Enable, 1<<csr.Soft)
		switch {
		case isOneOf(x.Op, kernels):
			g.trapped(api.Trap{Cause: api.CauseIllegal, Value: w}, "%+v from User", x)
			g.wantCalls()
		case x.Op == insn.Ecall:
			g.trapped(api.Trap{Cause: api.CauseUser}, "%+v from User", x)
		default:
			control := g.state().control
			if got, e := Step(g.r, g.f, g.b); got != (Result{}) || e != api.OK {
				t.Errorf("%+v from User: %+v, %d", x, got, int(e))
			}
			if g.r.Mode != api.User || g.state().control != control {
				t.Errorf("%+v from User leaves the mode %d, %v", x, g.r.Mode, g.state().control)
			}
		}
	}
}

// A register's number that there is none of from User either: the word is illegal there whatever it names.
func TestControlFromUser(t *testing.T) {
	for _, op := range []int{insn.Csrrw, insn.Csrrs, insn.Csrrc} {
		for _, n := range []int{0, 7, 9, 10, 11, 12, 4095} {
			for _, rs1 := range []int{0, 1} {
				g := newRig(t)
				w := g.put(api.Insn{Op: op, Rd: 2, Rs1: rs1, Imm: n})
				g.r.Mode = api.User
				g.trapped(api.Trap{Cause: api.CauseIllegal, Value: w}, "operation %d of %d from User", op, n)
			}
		}
	}
}

func TestFences(t *testing.T) {
	for _, mode := range []int{api.User, api.Kernel} {
		g := rigOf(t, api.Insn{Op: insn.Fence})
		g.r.Mode = mode
		g.done(0, 0, "fence in the mode %d", mode)
		g.wantCalls()
	}
	for _, rs1 := range []int{0, 1, 15} {
		g := rigOf(t, api.Insn{Op: insn.Sfence, Rs1: rs1})
		want := g.state()
		want.regs.Pc += 4
		g.step(Result{Fence: true}, want, "sfence x%d", rs1)
		g.wantCalls()
	}
}

func TestEcall(t *testing.T) {
	g := rigOf(t, api.Insn{Op: insn.Ecall})
	g.unchanged(Result{Kind: Call, Trap: api.Trap{Cause: api.CauseKernel}}, "ecall from Kernel")
	g.wantCalls()
	g.r.Mode = api.User
	g.trapped(api.Trap{Cause: api.CauseUser}, "ecall from User")
	if g.f.Get(csr.Epc) != start || g.f.Get(csr.Cause) != api.CauseUser || g.f.Get(csr.Value) != 0 {
		t.Errorf("ecall from User: Epc = %#x, Cause = %d, Value = %d", g.f.Get(csr.Epc), g.f.Get(csr.Cause), g.f.Get(csr.Value))
	}
}

func TestSret(t *testing.T) {
	for _, mode := range []int{api.User, api.Kernel} {
		for _, on := range []uint64{0, csr.On} {
			g := newRig(t)
			g.f.Set(csr.Status, on)
			g.r.Mode = mode
			g.trapped(api.Trap{Cause: api.CauseIllegal}, "the word 0 in the mode %d", mode)
			g.put(api.Insn{Op: insn.Sret})
			want := g.state()
			want.regs.Pc, want.regs.Mode = start, mode
			want.control[csr.Status] = on | csr.WasOn
			g.step(Result{}, want, "sret to the mode %d", mode)
			g.wantCalls()
		}
	}
	// Without a trap ahead of it: to Epc, in User.
	g := rigOf(t, api.Insn{Op: insn.Sret})
	want := g.state()
	want.regs.Pc, want.regs.Mode = 0x300, api.User
	want.control[csr.Status] = csr.WasOn
	g.step(Result{}, want, "sret ahead of any trap")
}

func TestWfi(t *testing.T) {
	lines := []int{csr.Soft, csr.Timer, csr.Device}
	for _, enabled := range lines {
		for _, set := range lines {
			g := rigOf(t, api.Insn{Op: insn.Wfi})
			g.f.Set(csr.Enable, 1<<enabled)
			g.f.Set(csr.Pending, 1<<set)
			if enabled == set {
				g.done(0, 0, "wfi with the line %d", set)
			} else {
				g.unchanged(Result{Kind: Waits}, "wfi with the line %d, %d enabled", set, enabled)
			}
			g.wantCalls()
		}
	}
	g := rigOf(t, api.Insn{Op: insn.Wfi})
	g.f.Set(csr.Status, csr.On)
	g.unchanged(Result{Kind: Waits}, "wfi without a line")
}

// controlled tells what a Csrrw, Csrrs or Csrrc in Kernel does to a state, by the chapter's words.
func controlled(s *state, x api.Insn, w uint64) Result {
	f := s.file()
	was, e := f.Read(x.Imm, api.Kernel)
	illegal := api.Trap{Cause: api.CauseIllegal, Value: w}
	if e != api.OK {
		s.enter(illegal)
		return Result{Kind: Trapped, Trap: illegal}
	}
	result := Result{}
	if x.Op == insn.Csrrw || x.Rs1 != 0 {
		v := s.regs.X[x.Rs1]
		switch x.Op {
		case insn.Csrrs:
			v = was | v
		case insn.Csrrc:
			v = was & (v ^ allBits)
		}
		switch x.Imm {
		case csr.Time, csr.Hartid:
			s.enter(illegal)
			return Result{Kind: Trapped, Trap: illegal}
		case csr.Compare:
			f.Set(csr.Compare, v)
			result.Timer = true
		case csr.Satp:
			result.Fence = true
			fallthrough
		default:
			f.Write(x.Imm, api.Kernel, v)
		}
		s.take(f)
	}
	s.set(x.Rd, was)
	s.regs.Pc += 4
	return result
}

func TestControl(t *testing.T) {
	for _, op := range []int{insn.Csrrw, insn.Csrrs, insn.Csrrc} {
		for _, n := range []int{0, 1, 2, 3, 4, 5, 6, 7, 8, 9, 10, 11, 12, 13, 15, 16, 27, 64, 256, 2048, 4094, 4095} {
			for _, v := range []uint64{0, 1, 3, 0x222, csr.Paged | 5, 0x0123456789abcdef, highest, allBits} {
				for _, rs1 := range []int{0, 1} {
					for _, rd := range []int{0, 1, 2} {
						g := newRig(t)
						for i := range 11 {
							g.f.Set(i, uint64(i+1)*0x0fedcba987654321&^csr.On) // interrupts stay away
						}
						g.f.Set(csr.Vector, vector)
						x := api.Insn{Op: op, Rd: rd, Rs1: rs1, Imm: n}
						w := g.put(x)
						if rs1 != 0 {
							g.r.X[rs1] = v
						}
						want := g.state()
						result := controlled(&want, x, w)
						g.step(result, want, "operation %d of the register %d, x%d = %#x, into x%d", op, n, rs1, v, rd)
						g.wantCalls()
					}
				}
			}
		}
	}
}

func TestControlByHand(t *testing.T) {
	for _, c := range []struct {
		x      api.Insn
		was, v uint64 // the control register, and X[1]
		left   uint64
		rd     uint64 // X[3]; where the word is illegal: as it was
		result Result
	}{
		{api.Insn{Op: insn.Csrrw, Rd: 3, Rs1: 1, Imm: csr.Scratch}, 5, 9, 9, 5, Result{}},
		{api.Insn{Op: insn.Csrrs, Rd: 3, Rs1: 1, Imm: csr.Scratch}, 5, 9, 13, 5, Result{}},
		{api.Insn{Op: insn.Csrrc, Rd: 3, Rs1: 1, Imm: csr.Scratch}, 5, 9, 4, 5, Result{}},
		{api.Insn{Op: insn.Csrrw, Rd: 3, Rs1: 0, Imm: csr.Scratch}, 5, 9, 0, 5, Result{}},
		{api.Insn{Op: insn.Csrrs, Rd: 3, Rs1: 0, Imm: csr.Scratch}, 5, 9, 5, 5, Result{}},
		{api.Insn{Op: insn.Csrrc, Rd: 3, Rs1: 0, Imm: csr.Scratch}, 5, 9, 5, 5, Result{}},
		{api.Insn{Op: insn.Csrrw, Rd: 3, Rs1: 1, Imm: csr.Status}, 0, allBits &^ csr.On, csr.WasOn | csr.WasKern, 0, Result{}},
		{api.Insn{Op: insn.Csrrw, Rd: 3, Rs1: 1, Imm: csr.Pending}, 0x222, 0, 0x220, 0x222, Result{}},
		{api.Insn{Op: insn.Csrrw, Rd: 3, Rs1: 1, Imm: csr.Compare}, 5, 9, 9, 5, Result{Timer: true}},
		{api.Insn{Op: insn.Csrrs, Rd: 3, Rs1: 1, Imm: csr.Compare}, 5, highest, highest + 5, 5, Result{Timer: true}},
		{api.Insn{Op: insn.Csrrc, Rd: 3, Rs1: 1, Imm: csr.Compare}, 5, 4, 1, 5, Result{Timer: true}},
		{api.Insn{Op: insn.Csrrw, Rd: 3, Rs1: 0, Imm: csr.Compare}, 5, 9, 0, 5, Result{Timer: true}},
		{api.Insn{Op: insn.Csrrs, Rd: 3, Rs1: 0, Imm: csr.Compare}, 5, 9, 5, 5, Result{}},
		{api.Insn{Op: insn.Csrrs, Rd: 3, Rs1: 1, Imm: csr.Compare}, 5, 0, 5, 5, Result{Timer: true}},
		{api.Insn{Op: insn.Csrrw, Rd: 3, Rs1: 1, Imm: csr.Satp}, 0, csr.Paged | 1<<40 | 7, csr.Paged | 7, 0, Result{Fence: true}},
		{api.Insn{Op: insn.Csrrw, Rd: 3, Rs1: 1, Imm: csr.Satp}, csr.Paged | 7, 8, 0, csr.Paged | 7, Result{Fence: true}},
		{api.Insn{Op: insn.Csrrc, Rd: 3, Rs1: 1, Imm: csr.Satp}, csr.Paged | 7, 0, csr.Paged | 7, csr.Paged | 7, Result{Fence: true}},
		{api.Insn{Op: insn.Csrrc, Rd: 3, Rs1: 0, Imm: csr.Satp}, csr.Paged | 7, 9, csr.Paged | 7, csr.Paged | 7, Result{}},
		{api.Insn{Op: insn.Csrrs, Rd: 3, Rs1: 0, Imm: csr.Satp}, csr.Paged | 7, 9, csr.Paged | 7, csr.Paged | 7, Result{}},
		{api.Insn{Op: insn.Csrrs, Rd: 3, Rs1: 0, Imm: csr.Time}, 5, 9, 5, 5, Result{}},
		{api.Insn{Op: insn.Csrrc, Rd: 3, Rs1: 0, Imm: csr.Hartid}, 5, 9, 5, 5, Result{}},
	} {
		g := rigOf(t, c.x)
		g.r.X[1] = c.v
		g.f.Set(c.x.Imm, c.was)
		want := g.state()
		want.control[c.x.Imm] = c.left
		want.regs.X[3] = c.rd
		want.regs.Pc += 4
		g.step(c.result, want, "%+v of %#x with %#x", c.x, c.was, c.v)
	}
	for _, x := range []api.Insn{
		{Op: insn.Csrrw, Rd: 3, Rs1: 0, Imm: csr.Time}, {Op: insn.Csrrw, Rd: 3, Rs1: 1, Imm: csr.Hartid}, {Op: insn.Csrrs, Rd: 3, Rs1: 1, Imm: csr.Time}, {Op: insn.Csrrc, Rd: 3, Rs1: 1, Imm: csr.Hartid},
		{Op: insn.Csrrs, Rd: 3, Rs1: 0, Imm: 12}, {Op: insn.Csrrc, Rd: 3, Rs1: 0, Imm: 4095}, {Op: insn.Csrrw, Rd: 3, Rs1: 1, Imm: 12},
	} {
		g := newRig(t)
		w := g.put(x)
		g.r.X[1] = 0
		g.trapped(api.Trap{Cause: api.CauseIllegal, Value: w}, "%+v", x)
	}
}

func TestIllegalWords(t *testing.T) {
	words := []uint32{0, 1, 1<<26 - 1, 49 << 26, 63 << 26, math.MaxUint32, 1<<26 | 1, insn.Slli<<26 | 64, insn.Csrrw<<26 | 4096, insn.Lr<<26 | 1<<14, insn.Ecall<<26 | 1, insn.Fence<<26 | 1<<22, insn.Sfence<<26 | 1}
	for _, mode := range []int{api.User, api.Kernel} {
		for _, above := range []uint64{0, 1 << 32, 0x0123456700000000, 0xffffffff00000000} {
			for _, w := range words {
				g := newRig(t)
				g.r.Mode = mode
				g.b.above = above
				g.putWord(w)
				g.trapped(api.Trap{Cause: api.CauseIllegal, Value: uint64(w)}, "the word %#x, with %#x above", w, above)
				g.wantCalls()
			}
			g := rigOf(t, api.Insn{Op: insn.Addi, Rd: 1, Rs1: 2, Imm: -1})
			g.r.Mode = mode
			g.b.above = above
			g.r.X[2] = 10
			g.done(1, 9, "addi with %#x above its word", above)
		}
	}
	// A word whose highest bit is set comes with its sign.
	g := newRig(t)
	w := g.put(api.Insn{Op: insn.Csrrw, Rd: 1, Imm: 4000})
	if w>>31 != 1 {
		t.Fatalf("the word %#x", w)
	}
	g.trapped(api.Trap{Cause: api.CauseIllegal, Value: w}, "csrrw of a register that is none")
	if g.f.Get(csr.Value) != w {
		t.Errorf("Value = %#x; want %#x", g.f.Get(csr.Value), w)
	}
}

func TestPcIsNoMultipleOfFour(t *testing.T) {
	for _, mode := range []int{api.User, api.Kernel} {
		for _, base := range []uint64{0, start, highest, allBits - 3} {
			for off := range uint64(4) {
				g := newRig(t)
				g.r.Mode = mode
				g.r.Pc = base + off
				g.put(api.Insn{Op: insn.Addi, Rd: 1, Rs1: 1, Imm: 1})
				if off == 0 {
					g.done(1, g.r.X[1]+1, "addi at %#x", base)
					continue
				}
				// Whatever the fetch would come to, it is not asked for.
				g.b.traps[asked{base + off, entry.Fetch}] = api.Trap{Cause: api.GuestFetch, Value: 1}
				g.trapped(api.Trap{Cause: api.CauseAlign, Value: base + off}, "Pc = %#x", base+off)
				if len(g.b.calls) != 0 || g.f.Get(csr.Epc) != base {
					t.Errorf("Pc = %#x: calls %q, Epc = %#x", base+off, g.b.calls, g.f.Get(csr.Epc))
				}
			}
		}
	}
}

// inTheWay are what a step meets behind an interrupt that is due.
func inTheWay() map[string]func(*rig) {
	list := map[string]func(*rig){
		"an odd Pc":          func(g *rig) { g.r.Pc++ },
		"a fetch refused":    func(g *rig) { g.b.traps[asked{start, entry.Fetch}] = api.Trap{Cause: api.FaultFetch, Value: start} },
		"a fetch beyond":     func(g *rig) { g.b.traps[asked{start, entry.Fetch}] = api.Trap{Cause: api.GuestFetch, Value: start} },
		"a fetch's error":    func(g *rig) { g.b.noLoad[start] = api.ErrBound },
		"a word that's none": func(g *rig) { g.putWord(0) },
	}
	for _, x := range each() {
		list[fmt.Sprintf("%+v", x)] = func(g *rig) { g.put(x) }
	}
	return list
}

func TestInterruptsComeFirst(t *testing.T) {
	causes := []struct{ line, cause int }{{csr.Device, api.IrqDevice}, {csr.Soft, api.IrqSoft}, {csr.Timer, api.IrqTimer}}
	for name, lay := range inTheWay() {
		for set := 1; set < 8; set++ {
			first := 0
			lines := uint64(0)
			for i := len(causes) - 1; i >= 0; i-- {
				if set>>i&1 != 0 {
					first = causes[i].cause
					lines |= 1 << causes[i].line
				}
			}
			for _, c := range []struct {
				mode   int
				status uint64
			}{{api.User, 0}, {api.User, csr.On}, {api.Kernel, csr.On}} {
				g := newRig(t)
				lay(g)
				g.f.Set(csr.Enable, lines)
				g.f.Set(csr.Pending, 0x222)
				g.f.Set(csr.Status, c.status)
				g.r.Mode = c.mode
				g.trapped(api.Trap{Cause: first}, "lines %#x ahead of %s", lines, name)
				if len(g.b.calls) != 0 || g.f.Get(csr.Value) != 0 || g.f.Get(csr.Cause) != csr.Irq|uint64(first-1<<62) {
					t.Errorf("lines %#x ahead of %s: calls %q, Cause = %#x, Value = %d", lines, name, g.b.calls, g.f.Get(csr.Cause), g.f.Get(csr.Value))
				}
			}
		}
	}
}

func TestInterruptsThatAreNotDue(t *testing.T) {
	for _, c := range []struct {
		mode                    int
		status, enable, pending uint64
	}{{api.Kernel, 0, 0x222, 0x222}, {api.Kernel, csr.WasOn | csr.WasKern, 0x222, 0x222}, {api.User, csr.On, 0x022, 0x200}, {api.Kernel, csr.On, 0x200, 0x022}, {api.User, 0, allBits, 0}, {api.User, 0, 0, 0x222}} {
		g := rigOf(t, api.Insn{Op: insn.Addi, Rd: 4, Imm: 6})
		g.r.Mode = c.mode
		g.f.Set(csr.Status, c.status)
		g.f.Set(csr.Enable, c.enable)
		g.f.Set(csr.Pending, c.pending)
		g.done(4, 6, "%+v", c)
	}
}

// Without an object nothing is done, also where the step would not have needed it.
func TestNoObjects(t *testing.T) {
	for name, lay := range inTheWay() {
		for _, due := range []uint64{0, 1 << csr.Soft} {
			g := newRig(t)
			lay(g)
			g.f.Set(csr.Status, csr.On)
			g.f.Set(csr.Enable, due)
			g.f.Set(csr.Pending, due)
			wantNil(t, g, name)
			// Without a step X[0] stays as well.
			g.r.X[0] = 7
			wantNil(t, g, name+" with X[0] = 7")
		}
	}
}

// wantNil asks for ErrNil of a step that lacks one of its objects, or several.
func wantNil(t *testing.T, g *rig, name string) {
	t.Helper()
	was := g.state()
	for lacks := 1; lacks < 16; lacks++ {
		r, f, b := g.r, g.f, Bus(g.b)
		if lacks&1 != 0 {
			r = nil
		}
		if lacks&2 != 0 {
			f = nil
		}
		if lacks&4 != 0 {
			f = &csr.File{}
		}
		if lacks&8 != 0 {
			b = nil
		}
		if got, e := Step(r, f, b); got != (Result{}) || e != api.ErrNil {
			t.Errorf("without %04b, %s: %+v, %d", lacks, name, got, int(e))
		}
	}
	if now := g.state(); !now.same(was) || len(g.b.calls) != 0 {
		t.Errorf("behind steps without an object: %+v, calls %q; want %+v", now, g.b.calls, was)
	}
}

// breaks is a bus that panics in one of its calls.
type breaks struct {
	*bus
	in string
}

func (b *breaks) Translate(root int, at uint64, access int, user bool) (uint64, api.Trap) {
	if b.in == fmt.Sprint("translate", access) {
		panic(b.in)
	}
	return b.bus.Translate(root, at, access, user)
}

func (b *breaks) Load(at uint64, width int) (uint64, api.Errno) {
	if b.in == fmt.Sprint("load", width) {
		panic(b.in)
	}
	return b.bus.Load(at, width)
}

func (b *breaks) Store(at uint64, width int, v uint64) api.Errno {
	if b.in == "store" {
		panic(b.in)
	}
	return b.bus.Store(at, width, v)
}

func (b *breaks) Hold(at uint64) {
	if b.in == "hold" {
		panic(b.in)
	}
	b.bus.Hold(at)
}

func (b *breaks) Held(at uint64) bool {
	if b.in == "held" {
		panic(b.in)
	}
	return b.bus.Held(at)
}

func TestBusThatPanics(t *testing.T) {
	for _, c := range []struct {
		op int
		in string
	}{
		{insn.Addi, "translate0"}, {insn.Addi, "load4"}, {insn.Ld, "translate1"}, {insn.Ld, "load8"}, {insn.Sd, "translate2"}, {insn.Sd, "store"},
		{insn.Lr, "translate1"}, {insn.Lr, "load8"}, {insn.Lr, "hold"}, {insn.Sc, "translate2"}, {insn.Sc, "held"}, {insn.Sc, "store"},
		{insn.Amoadd, "load8"}, {insn.Amoadd, "store"}, {insn.Amoswp, "translate2"}, {insn.Amoswp, "store"},
	} {
		g := newRig(t)
		for _, x := range each() {
			if x.Op == c.op {
				g.put(x)
			}
		}
		g.r.X[0], g.r.X[1] = 7, data
		was := g.state()
		g.b.held, g.b.holds = data, true
		if got, e := Step(g.r, g.f, &breaks{g.b, c.in}); got != (Result{}) || e != api.ErrNil {
			t.Errorf("operation %d, panic in %s: %+v, %d", c.op, c.in, got, int(e))
		}
		if now := g.state(); now.regs != was.regs || now.control != was.control {
			t.Errorf("operation %d, panic in %s: %+v; want %+v", c.op, c.in, now, was)
		}
	}
	g := rigOf(t, api.Insn{Op: insn.Addi, Rd: 1, Imm: 1})
	g.r.X[0] = 7
	was := g.state()
	if got, e := Step(g.r, g.f, (*bus)(nil)); got != (Result{}) || e != api.ErrNil || !g.state().same(was) {
		t.Errorf("a bus that is a nil pointer: %+v, %d", got, int(e))
	}
}

// Whoever has the registers may write X[0]: it is 0 nevertheless.
func TestX0ThatIsWritten(t *testing.T) {
	for _, c := range []struct {
		x  api.Insn
		rd int
		v  uint64
	}{
		{api.Insn{Op: insn.Add, Rd: 1}, 1, 0}, {api.Insn{Op: insn.Addi, Rd: 1, Imm: 5}, 1, 5}, {api.Insn{Op: insn.Addi, Imm: 5}, 0, 0},
		{api.Insn{Op: insn.Ld, Rd: 1, Imm: 8}, 1, 0}, {api.Insn{Op: insn.Sret}, -1, 0}, {api.Insn{Op: insn.Fence}, 0, 0}, {api.Insn{Op: insn.Csrrs, Rd: 1, Imm: csr.Scratch}, 1, 79},
	} {
		g := rigOf(t, c.x)
		g.r.X[0] = 7
		if got, e := Step(g.r, g.f, g.b); got != (Result{}) || e != api.OK || g.r.X[0] != 0 || c.rd > 0 && g.r.X[c.rd] != c.v {
			t.Errorf("%+v with X[0] = 7: %+v, %d, X = %v", c.x, got, int(e), g.r.X)
		}
	}
	g := rigOf(t, api.Insn{Op: insn.Beq, Rs1: 0, Rs2: 1, Imm: 3})
	g.r.X[0], g.r.X[1] = 7, 0
	if Step(g.r, g.f, g.b); g.r.Pc != start+12 {
		t.Errorf("beq x0, x1 with X[0] = 7, X[1] = 0: Pc = %#x", g.r.Pc)
	}
	g = rigOf(t, api.Insn{Op: insn.Jalr, Rd: 1, Imm: 16})
	g.r.X[0] = 7
	if Step(g.r, g.f, g.b); g.r.Pc != 16 {
		t.Errorf("jalr x1, 16(x0) with X[0] = 7: Pc = %#x", g.r.Pc)
	}
	g = rigOf(t, api.Insn{Op: insn.Csrrw, Imm: csr.Scratch})
	g.r.X[0] = 7
	if Step(g.r, g.f, g.b); g.f.Get(csr.Scratch) != 0 {
		t.Errorf("csrrw of Scratch, x0 with X[0] = 7: %d", g.f.Get(csr.Scratch))
	}
	g = rigOf(t, api.Insn{Op: insn.Sd, Imm: 8})
	g.r.X[0] = 7
	g.b.keep(8, 8, allBits)
	if Step(g.r, g.f, g.b); g.b.number(8, 8) != 0 {
		t.Errorf("sd x0, 8(x0) with X[0] = 7: %#x", g.b.number(8, 8))
	}
}

// A mode that is neither is not User: the instructions are done as in Kernel, but for what csr refuses.
func TestModesThatAreNone(t *testing.T) {
	for _, mode := range noMode {
		for _, x := range each() {
			g := newRig(t)
			w := g.put(x)
			g.r.Mode = mode
			g.r.X[1] = data
			switch x.Op {
			case insn.Ecall:
				g.unchanged(Result{Kind: Call, Trap: api.Trap{Cause: api.CauseKernel}}, "ecall in the mode %d", mode)
			case insn.Wfi:
				g.unchanged(Result{Kind: Waits}, "wfi in the mode %d", mode)
			case insn.Csrrw, insn.Csrrs, insn.Csrrc:
				g.trapped(api.Trap{Cause: api.CauseIllegal, Value: w}, "%+v in the mode %d", x, mode)
			default:
				got, e := Step(g.r, g.f, g.b)
				if got != (Result{Fence: x.Op == insn.Sfence}) || e != api.OK {
					t.Errorf("%+v in the mode %d: %+v, %d", x, mode, got, int(e))
				}
				if want := map[bool]int{true: api.User, false: mode}[x.Op == insn.Sret]; g.r.Mode != want {
					t.Errorf("%+v in the mode %d leaves the mode %d", x, mode, g.r.Mode)
				}
			}
			if len(g.b.calls) == 0 || g.b.calls[0] != "translate -1 0x1000 0 false" {
				t.Errorf("%+v in the mode %d: calls %q", x, mode, g.b.calls)
			}
		}
	}
}
