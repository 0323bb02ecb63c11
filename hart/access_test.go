package hart

import (
	"fmt"
	"math"
	"testing"

	"palisade/api"
	"palisade/csr"
	"palisade/entry"
	"palisade/insn"
)

// data is where the tests load and store, as the program's address.
const data = 0x4000

// reacher is an operation that reaches the memory: as what, and how wide.
type reacher struct {
	op, access, width int
	hasImm            bool
}

var reachers = []reacher{
	{insn.Ld, entry.Load, 8, true}, {insn.Lw, entry.Load, 4, true}, {insn.Lb, entry.Load, 1, true},
	{insn.Sd, entry.Store, 8, true}, {insn.Sw, entry.Store, 4, true}, {insn.Sb, entry.Store, 1, true},
	{insn.Lr, entry.Load, 8, false}, {insn.Sc, entry.Store, 8, false}, {insn.Amoadd, entry.Store, 8, false}, {insn.Amoswp, entry.Store, 8, false},
}

// insn tells its instruction: rd x3, rs1 x1, rs2 x2.
func (o reacher) insn(s int) api.Insn {
	x := api.Insn{Op: o.op, Rd: 3, Rs1: 1, Rs2: 2, Imm: s}
	switch o.op {
	case insn.Ld, insn.Lw, insn.Lb, insn.Lr:
		x.Rs2 = 0
	case insn.Sd, insn.Sw, insn.Sb:
		x.Rd = 0
	}
	return x
}

// cause tells the trap's cause, of a load or of a store.
func (o reacher) cause(load, store int) int {
	if o.access == entry.Store {
		return store
	}
	return load
}

// rig makes one that is about to reach the address, in a memory whose addresses are not the program's. It is held.
func (o reacher) rig(t *testing.T, at uint64, s int) *rig {
	t.Helper()
	g := newRig(t)
	g.b.moved = 0x70000
	g.put(o.insn(s))
	g.r.X[1] = at - uint64(s)
	g.b.keep(data+g.b.moved, 8, 0x8182838485868788)
	g.b.held, g.b.holds = at+g.b.moved, true
	return g
}

// reached tells what a step that reaches the memory asks the bus for, behind the translation.
func (o reacher) reached(at, rs2, there uint64) []string {
	load, store := fmt.Sprintf("load %#x %d", at, o.width), fmt.Sprintf("store %#x %d %#x", at, o.width, rs2)
	switch o.op {
	case insn.Lr:
		return []string{load, fmt.Sprintf("hold %#x", at)}
	case insn.Sc:
		return []string{fmt.Sprintf("held %#x", at), store}
	case insn.Amoadd:
		return []string{load, fmt.Sprintf("store %#x 8 %#x", at, there+rs2)}
	case insn.Amoswp:
		return []string{load, store}
	}
	if o.access == entry.Store {
		return []string{store}
	}
	return []string{load}
}

func TestLoads(t *testing.T) {
	const there = 0x8182838485868788
	for _, c := range []struct {
		op   int
		from uint64
		want uint64
	}{
		{insn.Ld, data, there}, {insn.Lw, data, 0xffffffff85868788}, {insn.Lw, data + 4, 0xffffffff81828384}, {insn.Lw, data + 8, 0x01020304},
		{insn.Lb, data, 0x88}, {insn.Lb, data + 1, 0x87}, {insn.Lb, data + 7, 0x81}, {insn.Ld, data + 8, 0x7172737401020304},
		{insn.Ld, 0, 5}, {insn.Lw, 0, 5}, {insn.Lb, 0, 5}, {insn.Ld, allBits - 7, highest + 9}, {insn.Lw, allBits - 3, 0xffffffff80000000}, {insn.Lb, allBits, 0x80},
	} {
		for _, s := range []int{0, 1, -1, 8, -8, 8191, -8192} {
			for _, rd := range []int{0, 1, 3, 15} {
				g := rigOf(t, api.Insn{Op: c.op, Rd: rd, Rs1: 1, Imm: s})
				g.b.keep(data, 8, there)
				g.b.keep(data+8, 8, 0x7172737401020304)
				g.b.keep(0, 8, 5)
				g.b.keep(allBits-7, 8, highest+9)
				g.r.X[1] = c.from - uint64(s)
				g.done(rd, c.want, "operation %d from %#x, s = %d, into x%d", c.op, c.from, s, rd)
			}
		}
	}
}

func TestStores(t *testing.T) {
	for _, c := range []struct{ op, width int }{{insn.Sd, 8}, {insn.Sw, 4}, {insn.Sb, 1}} {
		for _, to := range []uint64{data, data + 8, 0, allBits - 7, highest, highest - 8} {
			for _, s := range []int{0, 1, -1, 8, -8, 8191, -8192} {
				for _, v := range edges {
					g := rigOf(t, api.Insn{Op: c.op, Rs1: 1, Rs2: 2, Imm: s})
					for at := to - 8; at != to+16; at++ {
						g.b.keep(at, 1, 0xa5)
					}
					g.r.X[1], g.r.X[2] = to-uint64(s), v
					want := g.state()
					want.keep(to, c.width, v)
					want.regs.Pc += 4
					g.step(Result{}, want, "operation %d of %#x to %#x, s = %d", c.op, v, to, s)
				}
			}
		}
	}
	g := rigOf(t, api.Insn{Op: insn.Sd, Rs1: 4, Rs2: 4, Imm: 8})
	g.r.X[4] = data
	g.doneStoring(data+8, 8, data, "sd x4, 8(x4)")
	g = rigOf(t, api.Insn{Op: insn.Sd, Rs1: 4, Imm: 8})
	g.r.X[4] = data
	g.b.keep(data+8, 8, allBits)
	g.doneStoring(data+8, 8, 0, "sd x0, 8(x4)")
}

// doneStoring steps an instruction that stores a number's lowest bytes, and goes on to the next.
func (g *rig) doneStoring(at uint64, width int, v uint64, name string) {
	g.t.Helper()
	want := g.state()
	want.keep(at, width, v)
	want.regs.Pc += 4
	g.step(Result{}, want, name)
}

func TestAlignment(t *testing.T) {
	for _, o := range reachers {
		for _, base := range []uint64{0, data, highest, allBits - 15} {
			for off := range uint64(16) {
				s := 0
				if o.hasImm {
					s = 5
				}
				at := base + off
				g := o.rig(t, at, s)
				if at%uint64(o.width) != 0 {
					// A Translate that refuses is not even asked.
					g.b.traps[asked{at, o.access}] = api.Trap{Cause: api.GuestLoad, Value: 1, Guest: 2}
					g.trapped(api.Trap{Cause: o.cause(api.CauseLoad, api.CauseStore), Value: at}, "operation %d of %#x", o.op, at)
					g.wantCalls()
					continue
				}
				rs2, there := g.r.X[2], g.b.number(at+g.b.moved, 8)
				if got, e := Step(g.r, g.f, g.b); got != (Result{}) || e != api.OK || g.r.Pc != start+4 {
					t.Errorf("operation %d of %#x: %+v, %d", o.op, at, got, int(e))
				}
				calls := append([]string{fmt.Sprintf("translate -1 %#x %d false", at, o.access)}, o.reached(at+g.b.moved, rs2, there)...)
				g.wantCalls(calls...)
			}
		}
	}
}

// Causes of the first stage, and of any that is below GuestFetch; and from it on.
var (
	gone   = []int{math.MinInt, -1, 0, api.CauseIllegal, api.CauseLoad, api.CauseUser, api.FaultFetch, api.FaultLoad, api.FaultStore, api.GuestFetch - 1}
	beyond = []int{api.GuestFetch, api.GuestLoad, api.GuestLoad + 1, api.GuestStore, api.GuestStore + 1, 1 << 32, api.IrqSoft, math.MaxInt}
)

func TestTranslateRefuses(t *testing.T) {
	for _, mode := range []int{api.User, api.Kernel} {
		for _, o := range reachers {
			refused := []string{fmt.Sprintf("translate -1 %#x %d %v", uint64(data), o.access, mode == api.User)}
			for _, cause := range gone {
				g := o.rig(t, data, 0)
				g.r.Mode = mode
				trap := api.Trap{Cause: cause, Value: 0x123, Guest: 0x456}
				g.b.traps[asked{data, o.access}] = trap
				g.trapped(trap, "operation %d, refused with %d", o.op, cause)
				g.wantCalls(refused...)
			}
			for _, cause := range beyond {
				g := o.rig(t, data, 0)
				g.r.Mode = mode
				trap := api.Trap{Cause: cause, Value: data, Guest: 0x456}
				g.b.traps[asked{data, o.access}] = trap
				g.unchanged(Result{Kind: Beyond, Trap: trap}, "operation %d, refused with %d", o.op, cause)
				g.wantCalls(refused...)
			}
		}
		// The zero trap's fields by themselves: each of them makes a trap.
		for _, trap := range []api.Trap{{Cause: 1}, {Value: 1}, {Guest: 1}} {
			g := rigOf(t, api.Insn{Op: insn.Ld, Rd: 3, Rs1: 1})
			g.r.Mode = mode
			g.r.X[1] = data
			g.b.traps[asked{data, entry.Load}] = trap
			g.trapped(trap, "refused with %+v", trap)
		}
	}
}

func TestFetchRefused(t *testing.T) {
	for _, mode := range []int{api.User, api.Kernel} {
		for _, cause := range gone {
			g := rigOf(t, api.Insn{Op: insn.Addi, Rd: 1, Imm: 1})
			g.r.Mode = mode
			trap := api.Trap{Cause: cause, Value: start, Guest: 0x789}
			g.b.traps[asked{start, entry.Fetch}] = trap
			g.trapped(trap, "fetch refused with %d", cause)
			if len(g.b.calls) != 1 {
				t.Errorf("fetch refused with %d: calls %q", cause, g.b.calls)
			}
		}
		for _, cause := range beyond {
			g := rigOf(t, api.Insn{Op: insn.Addi, Rd: 1, Imm: 1})
			g.r.Mode = mode
			trap := api.Trap{Cause: cause, Value: start, Guest: 0x789}
			g.b.traps[asked{start, entry.Fetch}] = trap
			g.unchanged(Result{Kind: Beyond, Trap: trap}, "fetch refused with %d", cause)
			if len(g.b.calls) != 1 {
				t.Errorf("fetch refused with %d: calls %q", cause, g.b.calls)
			}
		}
		for _, e := range []api.Errno{api.ErrNil, api.ErrArg, api.ErrAlign, api.ErrBound, -1, math.MaxInt, math.MinInt} {
			g := newRig(t)
			g.r.Mode = mode
			g.b.moved = 0x70000
			g.put(api.Insn{Op: insn.Addi, Rd: 1, Imm: 1})
			g.b.noLoad[start+g.b.moved] = e
			g.trapped(api.Trap{Cause: api.FaultFetch, Value: start}, "fetch with the error %d", int(e))
			g.wantCalls()
		}
	}
}

func TestBusRefuses(t *testing.T) {
	for _, e := range []api.Errno{api.ErrNil, api.ErrArg, api.ErrAlign, api.ErrBound, -1, math.MaxInt, math.MinInt} {
		for _, o := range reachers {
			trap := api.Trap{Cause: o.cause(api.FaultLoad, api.FaultStore), Value: data}
			loads := o.access == entry.Load || o.op == insn.Amoadd || o.op == insn.Amoswp
			if loads {
				g := o.rig(t, data, 0)
				g.b.noLoad[data+g.b.moved] = e
				g.trapped(trap, "operation %d with the load's error %d", o.op, int(e))
			}
			if o.access != entry.Store {
				continue
			}
			g := o.rig(t, data, 0)
			g.b.noStore[data+g.b.moved] = e
			want := g.state()
			if o.op == insn.Sc {
				want.held, want.holds = 0, false
			}
			want.enter(trap)
			g.step(Result{Kind: Trapped, Trap: trap}, want, "operation %d with the store's error %d", o.op, int(e))
		}
	}
}

func TestTranslateIsAsked(t *testing.T) {
	for _, mode := range []int{api.User, api.Kernel} {
		for satp, root := range map[uint64]int{0: -1, 5: -1, csr.RootBits: -1, csr.Paged: 0, csr.Paged | 1: 1, csr.Paged | 0x1234: 0x1234, csr.Paged | csr.RootBits: csr.RootBits} {
			for _, o := range reachers {
				g := o.rig(t, data, 0)
				g.r.Mode = mode
				g.f.Set(csr.Satp, satp)
				if got, e := Step(g.r, g.f, g.b); got != (Result{}) || e != api.OK {
					t.Errorf("operation %d: %+v, %d", o.op, got, int(e))
				}
				user := mode == api.User
				fetch := fmt.Sprintf("translate %d %#x %d %v", root, uint64(start), entry.Fetch, user)
				access := fmt.Sprintf("translate %d %#x %d %v", root, uint64(data), o.access, user)
				if len(g.b.calls) < 3 || g.b.calls[0] != fetch || g.b.calls[1] != fmt.Sprintf("load %#x 4", start+g.b.moved) || g.b.calls[2] != access {
					t.Errorf("operation %d, mode %d, Satp %#x: calls %q; want %q, its load, %q", o.op, mode, satp, g.b.calls, fetch, access)
				}
			}
		}
	}
}

// lr and sc do one of both of the address in x1; sc stores x2; both tell in x3.
func (g *rig) lr(at, want uint64) {
	g.t.Helper()
	g.put(api.Insn{Op: insn.Lr, Rd: 3, Rs1: 1})
	g.r.X[1] = at
	s := g.state()
	s.regs.X[3] = want
	s.held, s.holds = at+g.b.moved, true
	s.regs.Pc += 4
	g.step(Result{}, s, "lr of %#x", at)
}

func (g *rig) sc(at, v, want uint64) {
	g.t.Helper()
	g.put(api.Insn{Op: insn.Sc, Rd: 3, Rs1: 1, Rs2: 2})
	g.r.X[1], g.r.X[2] = at, v
	s := g.state()
	s.regs.X[3] = want
	s.held, s.holds = 0, false
	s.regs.Pc += 4
	if want == 0 {
		s.keep(at+g.b.moved, 8, v)
	}
	g.step(Result{}, s, "sc of %#x", at)
}

func TestHeld(t *testing.T) {
	for _, mode := range []int{api.User, api.Kernel} {
		for _, moved := range []uint64{0, 0x70000, allBits - 0xfff} {
			g := newRig(t)
			g.r.Mode = mode
			g.b.moved = moved
			g.b.keep(data+moved, 8, 41)
			g.b.keep(data+8+moved, 8, highest+42)
			g.sc(data, 1, 1) // nothing is held at first
			g.lr(data, 41)
			g.sc(data, 50, 0)
			g.sc(data, 51, 1) // the sc above let it go
			g.lr(data+8, highest+42)
			g.sc(data, 52, 1) // another address
			g.sc(data+8, 53, 1)
			g.lr(data, 50)
			g.lr(data+8, highest+42)
			g.sc(data+8, allBits, 0)
			g.lr(data+8, allBits)
		}
	}
}

func TestHeldIsTheMemorysAddress(t *testing.T) {
	g := newRig(t)
	g.lr(data, 0)
	g.b.moved = 8 // the same page lies elsewhere now
	g.sc(data, 1, 1)
	g.b.moved = 0
	g.lr(data, 0)
	g.b.moved = 8
	g.sc(data-8, 7, 0) // another address of the program's, the same of the memory's
	if v := g.b.number(data, 8); v != 7 {
		t.Errorf("sc through another page stores %d", v)
	}
}

func TestLrAndScOfRegisters(t *testing.T) {
	for _, c := range []struct {
		rd, rs1, rs2 int
	}{{0, 1, 2}, {1, 1, 2}, {2, 1, 2}, {3, 1, 1}, {1, 1, 1}, {3, 1, 0}, {15, 14, 13}} {
		g := rigOf(t, api.Insn{Op: insn.Lr, Rd: c.rd, Rs1: c.rs1})
		g.b.keep(data, 8, 99)
		g.r.X[c.rs1] = data
		want := g.state()
		want.set(c.rd, 99)
		want.held, want.holds = data, true
		want.regs.Pc += 4
		g.step(Result{}, want, "lr x%d, x%d", c.rd, c.rs1)

		for _, is := range []bool{true, false} {
			g = rigOf(t, api.Insn{Op: insn.Sc, Rd: c.rd, Rs1: c.rs1, Rs2: c.rs2})
			g.b.keep(data, 8, 99)
			g.r.X[c.rs1] = data
			g.b.held, g.b.holds = data, is
			v := g.r.X[c.rs2]
			want = g.state()
			want.held, want.holds = 0, false
			want.regs.Pc += 4
			want.set(c.rd, 1)
			if is {
				want.set(c.rd, 0)
				want.keep(data, 8, v)
			}
			g.step(Result{}, want, "sc x%d, x%d, x%d (held: %v)", c.rd, c.rs1, c.rs2, is)
		}
	}
	// Of the address 0 in x0.
	g := rigOf(t, api.Insn{Op: insn.Lr, Rd: 3})
	want := g.state()
	want.regs.X[3], want.holds = 0, true
	want.regs.Pc += 4
	g.step(Result{}, want, "lr x3, x0")
}

func TestScThatIsNotHeldStoresNothing(t *testing.T) {
	g := rigOf(t, api.Insn{Op: insn.Sc, Rd: 3, Rs1: 1, Rs2: 2})
	g.r.X[1] = data
	g.b.noStore[data] = api.ErrBound
	g.done(3, 1, "sc of what is not held")
	g.wantCalls(fmt.Sprintf("translate -1 %#x %d false", uint64(data), entry.Store), fmt.Sprintf("held %#x", uint64(data)))
}

func TestAmo(t *testing.T) {
	for _, op := range []int{insn.Amoadd, insn.Amoswp} {
		for _, there := range edges {
			for _, v := range edges {
				for _, c := range []struct{ rd, rs1, rs2 int }{{3, 1, 2}, {2, 1, 2}, {1, 1, 2}, {0, 1, 2}} {
					g := rigOf(t, api.Insn{Op: op, Rd: c.rd, Rs1: c.rs1, Rs2: c.rs2})
					g.b.keep(data, 8, there)
					g.b.keep(data+8, 1, 7)
					g.r.X[c.rs1], g.r.X[c.rs2] = data, v
					become := v
					if op == insn.Amoadd {
						become = reckoned(insn.Add, there, v)
					}
					want := g.state()
					want.keep(data, 8, become)
					want.set(c.rd, there)
					want.regs.Pc += 4
					g.step(Result{}, want, "operation %d of %#x, %#x into x%d", op, there, v, c.rd)
				}
			}
		}
		g := rigOf(t, api.Insn{Op: op, Rd: 4, Rs1: 4, Rs2: 4})
		g.b.keep(data, 8, 100)
		g.r.X[4] = data
		want := g.state()
		become := uint64(data)
		if op == insn.Amoadd {
			become += 100
		}
		want.keep(data, 8, become)
		want.regs.X[4] = 100
		want.regs.Pc += 4
		g.step(Result{}, want, "operation %d of one register", op)
		g = rigOf(t, api.Insn{Op: op, Rd: 4, Rs1: 1})
		g.b.keep(data, 8, 100)
		g.r.X[1] = data
		want = g.state()
		want.regs.X[4] = 100
		want.regs.Pc += 4
		if op == insn.Amoswp {
			want.keep(data, 8, 0)
		}
		g.step(Result{}, want, "operation %d with x0", op)
	}
}

// What the memory tells of a load is told, and the number that is stored is the register's: how many of its bytes is the width's to say.
func TestStoresOfRegistersThatAreLoaded(t *testing.T) {
	g := rigOf(t, api.Insn{Op: insn.Sw, Rs1: 1, Rs2: 2})
	g.r.X[1], g.r.X[2] = data, 0x1122334455667788
	g.doneStoring(data, 4, 0x55667788, "sw")
	g.put(api.Insn{Op: insn.Sb, Rs1: 1, Rs2: 2, Imm: 9})
	g.doneStoring(data+9, 1, 0x88, "sb")
	g.put(api.Insn{Op: insn.Ld, Rd: 5, Rs1: 1})
	g.done(5, 0x55667788, "ld behind sw")
	g.put(api.Insn{Op: insn.Ld, Rd: 1, Rs1: 1, Imm: 8})
	g.done(1, 0x8800, "ld behind sb, into its own address")
}
