package hart

import (
	"testing"

	"palisade/api"
	"palisade/csr"
	"palisade/entry"
	"palisade/insn"
)

// way is one in which a step comes to a kind.
type way struct {
	name string
	kind int
	lay  func(*rig)
}

// userAt lays an instruction ahead of a hart in User.
func userAt(x api.Insn) func(*rig) {
	return func(g *rig) {
		g.r.Mode = api.User
		g.put(x)
	}
}

// due lays an interrupt that is due.
func due(line, mode int) func(*rig) {
	return func(g *rig) {
		g.put(api.Insn{Op: insn.Addi, Rd: 1, Imm: 1})
		g.r.Mode = mode
		g.f.Set(csr.Status, csr.On)
		g.f.Set(csr.Enable, 1<<line)
		g.f.Set(csr.Pending, 1<<line)
	}
}

// waysOfTheFetch are those in which a step does not come to an instruction.
func waysOfTheFetch() []way {
	refused := func(mode, cause int) func(*rig) {
		return func(g *rig) {
			g.put(api.Insn{Op: insn.Fence})
			g.r.Mode = mode
			g.b.traps[asked{start, entry.Fetch}] = api.Trap{Cause: cause, Value: start, Guest: 256}
		}
	}
	return []way{
		{"a soft interrupt in User", Trapped, due(csr.Soft, api.User)},
		{"a timer's interrupt in Kernel", Trapped, due(csr.Timer, api.Kernel)},
		{"a device's interrupt in Kernel", Trapped, due(csr.Device, api.Kernel)},
		{"a Pc that is no multiple of 4", Trapped, func(g *rig) { g.r.Pc += 2 }},
		{"a fetch that the first stage refuses User", Trapped, refused(api.User, api.FaultFetch)},
		{"a fetch that the first stage refuses Kernel", Trapped, refused(api.Kernel, api.FaultFetch)},
		{"a fetch that the second stage refuses User", Beyond, refused(api.User, api.GuestFetch)},
		{"a fetch that the second stage refuses Kernel", Beyond, refused(api.Kernel, api.GuestFetch)},
		{"a fetch that the bus refuses", Trapped, func(g *rig) { g.b.noLoad[start] = api.ErrBound }},
		{"a word that is no instruction", Trapped, func(g *rig) { g.putWord(0) }},
	}
}

// waysOfInstructions are those of instructions that reach no memory.
func waysOfInstructions() []way {
	list := []way{
		{"ecall from User", Trapped, userAt(api.Insn{Op: insn.Ecall})},
		{"ecall from Kernel", Call, func(g *rig) { g.put(api.Insn{Op: insn.Ecall}) }},
		{"wfi that waits", Waits, func(g *rig) { g.put(api.Insn{Op: insn.Wfi}) }},
		{"csrrs of no register", Trapped, func(g *rig) { g.put(api.Insn{Op: insn.Csrrs, Imm: 4000}) }},
		{"csrrw of a register that is not written", Trapped, func(g *rig) { g.put(api.Insn{Op: insn.Csrrw, Imm: csr.Time}) }},
	}
	for _, x := range each() {
		if isOneOf(x.Op, kernels) {
			list = append(list, way{"an instruction of Kernel's from User", Trapped, userAt(x)})
		}
	}
	return list
}

// waysOfAccesses are those of instructions whose access is refused, with x0 as rd.
func waysOfAccesses() []way {
	var list []way
	for _, o := range reachers {
		x := o.insn(0)
		x.Rd = 0
		add := func(name string, kind int, lay func(*rig)) {
			list = append(list, way{name, kind, func(g *rig) {
				g.r.X[1] = data
				g.b.held, g.b.holds = data, true
				g.put(x)
				lay(g)
			}})
		}
		if o.width > 1 {
			add("an address that is no multiple of the width", Trapped, func(g *rig) { g.r.X[1]++ })
		}
		add("an access that the first stage refuses", Trapped, func(g *rig) {
			g.b.traps[asked{data, o.access}] = api.Trap{Cause: o.cause(api.FaultLoad, api.FaultStore), Value: data}
		})
		add("an access that the second stage refuses", Beyond, func(g *rig) {
			g.b.traps[asked{data, o.access}] = api.Trap{Cause: o.cause(api.GuestLoad, api.GuestStore), Value: data, Guest: 256}
		})
		add("an access that the bus refuses", Trapped, func(g *rig) {
			g.b.noLoad[data], g.b.noStore[data] = api.ErrBound, api.ErrBound
		})
	}
	return list
}

// X[0] is 0 behind a step whatever it comes to; all else is as with a hart whose X[0] was 0 ahead of it.
func TestX0BehindAStepThatIsNotDone(t *testing.T) {
	kinds := map[int]int{}
	for _, list := range [][]way{waysOfTheFetch(), waysOfInstructions(), waysOfAccesses()} {
		for _, w := range list {
			kinds[w.kind]++
			for _, v := range edges {
				wantZero(t, w, v)
			}
		}
	}
	for kind := Trapped; kind <= Waits; kind++ {
		if kinds[kind] == 0 {
			t.Errorf("no step came to %d", kind)
		}
	}
}

func wantZero(t *testing.T, w way, v uint64) {
	t.Helper()
	g, twin := newRig(t), newRig(t)
	w.lay(g)
	w.lay(twin)
	ahead := twin.state()
	g.r.X[0] = v
	want, _ := Step(twin.r, twin.f, twin.b)
	got, e := Step(g.r, g.f, g.b)
	if e != api.OK || got != want || got.Kind != w.kind {
		t.Errorf("%s, X[0] = %#x: %+v, %d; want %+v of the kind %d", w.name, v, got, int(e), want, w.kind)
	}
	now := g.state()
	if now.regs.X[0] != 0 {
		t.Errorf("%s, X[0] = %#x: behind the step X[0] = %#x", w.name, v, now.regs.X[0])
	}
	if !now.same(twin.state()) {
		t.Errorf("%s, X[0] = %#x: behind the step:\n%+v\nwant:\n%+v", w.name, v, now, twin.state())
	}
	if w.kind != Trapped && !now.same(ahead) {
		t.Errorf("%s, X[0] = %#x: changed\n%+v\nto\n%+v", w.name, v, ahead, now)
	}
}

// A file as it is made, a hart that is 0 but for X[0], and a memory that is all 0.
func TestX0BehindTheFirstStep(t *testing.T) {
	g := newRig(t)
	g.r, g.f = &api.Regs{Mode: api.User}, csr.New(0)
	g.r.X[0] = 1
	got, e := Step(g.r, g.f, g.b)
	if got != (Result{Kind: Trapped, Trap: api.Trap{Cause: api.CauseIllegal}}) || e != api.OK {
		t.Errorf("Step = %+v, %d", got, int(e))
	}
	if *g.r != (api.Regs{Mode: api.Kernel}) {
		t.Errorf("behind the step: %+v", *g.r)
	}
}
