package vcpu

import (
	"math"
	"testing"

	"palisade/api"
	"palisade/asm"
	"palisade/csr"
	"palisade/hart"
	"palisade/machine"
)

// edgeInts are numbers at both ends of int, and around the edges within.
var edgeInts = []int{math.MinInt, math.MinInt + 1, -1 << 32, math.MinInt32 - 1, math.MinInt32, -256, -17, -16, -4, -2, -1, 0, 1, 2, 3, 4, 5, 7, 8, 9, 15, 16, 17, 18, 255, 256, 1<<16 - 1, 1 << 16, math.MaxInt32, math.MaxInt32 + 1, 1 << 32, 1<<32 + 1, 1 << 62, math.MaxInt - 1, math.MaxInt}

// edgeNumbers are numbers of 64 bits, over the whole range.
var edgeNumbers = []uint64{0, 1, 2, 3, 4, 255, 256, 1<<31 - 1, 1 << 31, 1<<32 - 1, 1 << 32, 1<<62 + 1, 1<<63 - 1, 1 << 63, 1<<63 + 5, math.MaxUint64 - 1, math.MaxUint64}

// states are all there are, and what none is.
var states = []int{Ready, Running, Blocked, Stopped}

// frames is how many frames a board has; the guest's second stage has its root in the frame 0, its lower table in the frame 1 and its pages 0 and 1 in the frames 2 and 3.
const frames = 4

// program counts in x1, and writes it into Scratch.
const program = "loop: addi x1, x1, 1\ncsrrw x0, 7, x1\nadd x15, x15, x1\nbeq x0, x0, loop"

func newMachine(t *testing.T, cores int) *machine.Machine {
	t.Helper()
	m, e := machine.New(cores, frames)
	if e != api.OK {
		t.Fatalf("machine.New(%d, %d) = %d", cores, frames, int(e))
	}
	return m
}

// board is a machine with a second stage and the program at 0 and at 256.
func board(t *testing.T, cores int) *machine.Machine {
	t.Helper()
	m := newMachine(t, cores)
	words, line, e := asm.Assemble(program, 0)
	if e != api.OK {
		t.Fatalf("Assemble: %d in the line %d", int(e), line)
	}
	m.Memory().Store(0, 8, 1*1024+1)
	for page := range 2 {
		m.Memory().Store(uint64(256+8*page), 8, uint64(2+page)*1024+31)
		for i, w := range words {
			m.Memory().Store(uint64((2+page)*256+4*i), 4, uint64(w))
		}
	}
	return m
}

func made(t *testing.T, guest, index int, pc uint64) *Vcpu {
	t.Helper()
	v, e := New(guest, index, pc)
	if v == nil || e != api.OK {
		t.Fatalf("New(%d, %d, %d) = %v, %d", guest, index, pc, v, int(e))
	}
	return v
}

// inState tells a virtual processor of the guest 3 in a state; where it runs: on the core 1 of the machine.
func inState(t *testing.T, m *machine.Machine, state int) *Vcpu {
	t.Helper()
	v := made(t, 3, 2, 0)
	wantErrno(t, "Load", v.Load(sample(7)), api.OK)
	switch state {
	case Running:
		wantErrno(t, "Enter", v.Enter(m, 1, 0), api.OK)
	case Blocked:
		wantErrno(t, "Block", v.Block(), api.OK)
	case Stopped:
		wantErrno(t, "Stop", v.Stop(), api.OK)
	}
	return v
}

// nobodys are those that no call made.
func nobodys() []*Vcpu { return []*Vcpu{nil, {}} }

// noMachines are those that no call made.
func noMachines() []*machine.Machine { return []*machine.Machine{nil, {}} }

// sample tells numbers that are all different, of a Pc and control registers that let the program step.
func sample(salt uint64) [30]uint64 {
	var l [30]uint64
	for i := range l {
		l[i] = 1000*salt + uint64(i)*uint64(i) + 1
	}
	l[pcAt], l[modeAt] = 256, 1
	l[controlAt+csr.Status] = csr.WasOn
	l[controlAt+csr.Satp] = 5 // not paged
	return l
}

// numbersOf tells all numbers of registers and control registers, by the chapter's list.
func numbersOf(r api.Regs, f *csr.File) [30]uint64 {
	var l [30]uint64
	for i, x := range r.X {
		l[i] = x
	}
	l[16] = r.Pc
	l[17] = uint64(r.Mode)
	for n := range 12 {
		l[18+n] = f.Get(n)
	}
	return l
}

func wantErrno(t *testing.T, what string, e, want api.Errno) {
	t.Helper()
	if e != want {
		t.Errorf("%s = %d; want %d", what, int(e), int(want))
	}
}

func wantState(t *testing.T, v *Vcpu, state, core int) {
	t.Helper()
	if s, c := v.State(); s != state || c != core {
		t.Errorf("State() = %d, %d; want %d, %d", s, c, state, core)
	}
}

func wantName(t *testing.T, v *Vcpu, guest, index int) {
	t.Helper()
	if g, i := v.Name(); g != guest || i != index {
		t.Errorf("Name() = %d, %d; want %d, %d", g, i, guest, index)
	}
}

func wantRegs(t *testing.T, v *Vcpu, m *machine.Machine, want api.Regs) {
	t.Helper()
	if r := v.Regs(m); r != want {
		t.Errorf("Regs() = %v; want %v", r, want)
	}
}

func wantImage(t *testing.T, v *Vcpu, m *machine.Machine, want [30]uint64) {
	t.Helper()
	if l := v.Image(m); l != want {
		t.Errorf("Image() = %v; want %v", l, want)
	}
}

func wantContext(t *testing.T, m *machine.Machine, core int, want machine.Context) {
	t.Helper()
	if c, ok := m.Get(core); c != want || !ok {
		t.Errorf("the core %d has %+v, %v; want %+v, true", core, c, ok, want)
	}
}

func wantEmpty(t *testing.T, m *machine.Machine, core int) {
	t.Helper()
	if c, ok := m.Get(core); ok {
		t.Errorf("the core %d has %+v; want none", core, c)
	}
}

// seen is all that is told of one, and what a machine's cores have.
type seen struct {
	state, core, guest, index int
	file                      *csr.File
	regs                      api.Regs
	image                     [30]uint64
	contexts                  [2]machine.Context
}

func see(v *Vcpu, m *machine.Machine) seen {
	s := seen{file: v.File(), regs: v.Regs(m), image: v.Image(m)}
	s.state, s.core = v.State()
	s.guest, s.index = v.Name()
	for core := range s.contexts {
		s.contexts[core], _ = m.Get(core)
	}
	return s
}

func wantAsBefore(t *testing.T, what string, v *Vcpu, m *machine.Machine, before seen) {
	t.Helper()
	if s := see(v, m); s != before {
		t.Errorf("%s: %+v; want as before: %+v", what, s, before)
	}
}

func TestExample(t *testing.T) {
	m := newMachine(t, 1)
	v := made(t, 1, 2, 256)
	wantState(t, v, Ready, -1)
	wantErrno(t, "Enter", v.Enter(m, 0, 0), api.OK)
	wantState(t, v, Running, 0)
	wantErrno(t, "Block", v.Block(), api.ErrState)
	wantErrno(t, "Leave", v.Leave(m), api.OK)
	wantState(t, v, Ready, -1)
}

// P18.1.
func TestNew(t *testing.T) {
	for _, guest := range edgeInts {
		for _, index := range edgeInts {
			v, e := New(guest, index, 256)
			if guest < 1 || guest > 16 || index < 0 || index > 3 {
				if v != nil || e != api.ErrArg {
					t.Errorf("New(%d, %d, 256) = %v, %d; want nil, %d", guest, index, v, int(e), int(api.ErrArg))
				}
				continue
			}
			if v == nil || e != api.OK {
				t.Errorf("New(%d, %d, 256) = %v, %d", guest, index, v, int(e))
				continue
			}
			wantNew(t, v, guest, index, 256)
		}
	}
}

func TestNewOfEachGuest(t *testing.T) {
	for guest := 1; guest <= 16; guest++ {
		for index := range 4 {
			wantNew(t, made(t, guest, index, 0), guest, index, 0)
		}
	}
}

func TestNewPc(t *testing.T) {
	for _, pc := range edgeNumbers {
		wantNew(t, made(t, 16, 3, pc), 16, 3, pc)
	}
	for _, pc := range edgeNumbers {
		if v, e := New(0, 0, pc); v != nil || e != api.ErrArg {
			t.Errorf("New(0, 0, %d) = %v, %d", pc, v, int(e))
		}
	}
}

// wantNew looks at all that is told of what is new.
func wantNew(t *testing.T, v *Vcpu, guest, index int, pc uint64) {
	t.Helper()
	wantName(t, v, guest, index)
	wantState(t, v, Ready, -1)
	wantRegs(t, v, nil, api.Regs{Pc: pc, Mode: api.Kernel})
	var image [30]uint64
	image[16], image[17], image[29] = pc, 1, uint64(index)
	wantImage(t, v, nil, image)
	for n := range csr.Hartid {
		if got := v.File().Get(n); got != 0 {
			t.Errorf("the control register %d is %d at first", n, got)
		}
	}
	if id, e := v.File().Read(csr.Hartid, api.Kernel); id != uint64(index) || e != api.OK {
		t.Errorf("Hartid is %d, %d; want %d", id, int(e), index)
	}
}

// The index is told by Name, whatever Hartid is set to: the control registers are shared.
func TestNameStays(t *testing.T) {
	v := made(t, 5, 1, 0)
	v.File().Set(csr.Hartid, 3)
	wantName(t, v, 5, 1)
	if l := v.Image(nil); l[29] != 3 {
		t.Errorf("Image()[29] = %d; want 3", l[29])
	}
}

// DOC.md, rule 1.
func TestNobodys(t *testing.T) {
	m := board(t, 2)
	for _, v := range nobodys() {
		wantName(t, v, 0, 0)
		wantState(t, v, 0, -1)
		if f := v.File(); f != nil {
			t.Errorf("File() = %v; want nil", f)
		}
		for _, m := range append(noMachines(), m) {
			wantRegs(t, v, m, api.Regs{})
			wantImage(t, v, m, [30]uint64{})
			for _, n := range edgeInts {
				wantErrno(t, "Enter", v.Enter(m, n, 0), api.ErrNil)
				wantErrno(t, "Enter", v.Enter(m, 0, n), api.ErrNil)
			}
			wantErrno(t, "Leave", v.Leave(m), api.ErrNil)
			wantErrno(t, "SetRegs", v.SetRegs(m, api.Regs{Pc: 4}), api.ErrNil)
		}
		wantErrno(t, "Block", v.Block(), api.ErrNil)
		wantErrno(t, "Wake", v.Wake(), api.ErrNil)
		wantErrno(t, "Stop", v.Stop(), api.ErrNil)
		wantErrno(t, "Load", v.Load(sample(1)), api.ErrNil)
		wantState(t, v, 0, -1)
		wantImage(t, v, m, [30]uint64{})
	}
	wantEmpty(t, m, 0)
	wantEmpty(t, m, 1)
}

// Calls that are given no machine, in every state: ErrNil comes ahead of the states' errors.
func TestNoMachine(t *testing.T) {
	m := board(t, 2)
	for _, state := range states {
		v := inState(t, m, state)
		before := see(v, m)
		for _, none := range noMachines() {
			wantErrno(t, "Enter", v.Enter(none, 0, 0), api.ErrNil)
			wantErrno(t, "Enter", v.Enter(none, -1, -1), api.ErrNil)
			wantErrno(t, "Leave", v.Leave(none), api.ErrNil)
			wantErrno(t, "SetRegs", v.SetRegs(none, api.Regs{Pc: 4}), api.ErrNil)
		}
		wantAsBefore(t, "no machine", v, m, before)
		if state == Running {
			wantErrno(t, "Leave", v.Leave(m), api.OK)
		}
	}
}

// What a machine has is not asked, unless it runs: any machine, or none, may be given to Regs and Image.
func TestRegsOfAnyMachine(t *testing.T) {
	m := board(t, 2)
	other := made(t, 4, 0, 12)
	wantErrno(t, "Enter", other.Enter(m, 1, 1), api.OK)
	for _, state := range []int{Ready, Blocked, Stopped} {
		v := inState(t, m, state)
		want := sample(7)
		want[0], want[29] = 0, 2
		for _, m := range append(noMachines(), m, board(t, 1)) {
			wantImage(t, v, m, want)
			if r := v.Regs(m); numbersOf(r, v.File()) != want {
				t.Errorf("Regs() = %v; want those of %v", r, want)
			}
		}
	}
}

// While it runs they are the core's, by machine.Get: zeros, where there is no such core.
func TestRegsOfNoCore(t *testing.T) {
	m := board(t, 2)
	v := inState(t, m, Running)
	want := numbersOf(api.Regs{}, v.File())
	for _, m := range append(noMachines(), newMachine(t, 1), newMachine(t, 2)) {
		wantRegs(t, v, m, api.Regs{})
		wantImage(t, v, m, want)
	}
}

// deed is one of the calls that go from state to state.
type deed struct {
	name string
	do   func(v *Vcpu, m *machine.Machine) api.Errno
	goes map[int]int // by the states in which it may be done
}

func deeds() []deed {
	regs := api.Regs{Pc: 8}
	same := map[int]int{Ready: Ready, Blocked: Blocked, Stopped: Stopped}
	return []deed{
		{"Enter", func(v *Vcpu, m *machine.Machine) api.Errno { return v.Enter(m, 0, 0) }, map[int]int{Ready: Running}},
		{"Leave", func(v *Vcpu, m *machine.Machine) api.Errno { return v.Leave(m) }, map[int]int{Running: Ready}},
		{"Block", func(v *Vcpu, _ *machine.Machine) api.Errno { return v.Block() }, map[int]int{Ready: Blocked}},
		{"Wake", func(v *Vcpu, _ *machine.Machine) api.Errno { return v.Wake() }, map[int]int{Blocked: Ready}},
		{"Stop", func(v *Vcpu, _ *machine.Machine) api.Errno { return v.Stop() }, map[int]int{Ready: Stopped, Blocked: Stopped}},
		{"SetRegs", func(v *Vcpu, m *machine.Machine) api.Errno { return v.SetRegs(m, regs) }, same},
		{"Load", func(v *Vcpu, _ *machine.Machine) api.Errno { return v.Load(sample(9)) }, same},
	}
}

// P18.2, P18.3, P18.4: each of the calls in each of the states.
func TestStates(t *testing.T) {
	for _, state := range states {
		for _, d := range deeds() {
			m := board(t, 2)
			v := inState(t, m, state)
			before := see(v, m)
			to, may := d.goes[state]
			if !may {
				wantErrno(t, d.name, d.do(v, m), api.ErrState)
				wantAsBefore(t, d.name, v, m, before)
				continue
			}
			wantErrno(t, d.name, d.do(v, m), api.OK)
			core := -1
			if to == Running {
				core = 0
			}
			wantState(t, v, to, core)
			wantName(t, v, 3, 2)
			if t.Failed() {
				t.Fatalf("%s in the state %d", d.name, state)
			}
		}
	}
}

// Two calls one behind the other, from each of the states.
func TestStatesBehindOneAnother(t *testing.T) {
	for _, state := range states {
		for _, first := range deeds() {
			for _, second := range deeds() {
				m := board(t, 2)
				v := inState(t, m, state)
				now := state
				for _, d := range []deed{first, second} {
					to, may := d.goes[now]
					want := api.ErrState
					if may {
						want, now = api.OK, to
					}
					wantErrno(t, d.name, d.do(v, m), want)
					if s, c := v.State(); s != now || (c >= 0) != (now == Running) {
						t.Errorf("State() = %d, %d behind %s; want %d", s, c, d.name, now)
					}
				}
				if t.Failed() {
					t.Fatalf("%s, %s in the state %d", first.name, second.name, state)
				}
			}
		}
	}
}

// Block, Wake and Stop change nothing but the state.
func TestStatesAlone(t *testing.T) {
	m := board(t, 2)
	v := inState(t, m, Ready)
	before := see(v, m)
	for _, d := range []struct {
		name  string
		do    func() api.Errno
		state int
	}{{"Block", v.Block, Blocked}, {"Wake", v.Wake, Ready}, {"Block", v.Block, Blocked}, {"Stop", v.Stop, Stopped}} {
		wantErrno(t, d.name, d.do(), api.OK)
		before.state = d.state
		wantAsBefore(t, d.name, v, m, before)
	}
	for _, d := range deeds()[:5] {
		wantErrno(t, d.name+" of what is stopped", d.do(v, m), api.ErrState)
	}
	wantAsBefore(t, "Stopped", v, m, before)
}

// P18.2: what the core has behind Enter.
func TestEnter(t *testing.T) {
	for root := range frames {
		for core := range 3 {
			m := board(t, 3)
			v := made(t, 3, 2, 0)
			v.Load(sample(4))
			regs := v.Regs(m)
			image := v.Image(m)
			wantErrno(t, "Enter", v.Enter(m, core, root), api.OK)
			wantState(t, v, Running, core)
			wantContext(t, m, core, machine.Context{Guest: 3, Regs: regs, File: v.File(), Root: root})
			wantRegs(t, v, m, regs)
			wantImage(t, v, m, image)
			for other := range 3 {
				if other != core {
					wantEmpty(t, m, other)
				}
			}
		}
	}
}

// machine.Put's errors, in its order, behind ErrState.
func TestEnterErrors(t *testing.T) {
	m := board(t, 2)
	v := inState(t, m, Ready)
	before := see(v, m)
	for _, n := range edgeInts {
		if n < 0 || n >= 2 {
			wantErrno(t, "Enter on no core", v.Enter(m, n, 0), api.ErrArg)
			wantErrno(t, "Enter on no core, with no root", v.Enter(m, n, -1), api.ErrArg)
		}
		if n < 0 || n >= frames {
			wantErrno(t, "Enter with no root", v.Enter(m, 0, n), api.ErrArg)
			wantErrno(t, "Enter with no root", v.Enter(m, 1, n), api.ErrArg)
		}
	}
	wantAsBefore(t, "Enter with what is wrong", v, m, before)

	other := made(t, 4, 0, 8)
	wantErrno(t, "Enter", other.Enter(m, 0, 3), api.OK)
	before = see(v, m)
	wantErrno(t, "Enter on another one's core", v.Enter(m, 0, 0), api.ErrThere)
	wantErrno(t, "Enter on another one's core with no root", v.Enter(m, 0, frames), api.ErrArg)
	wantAsBefore(t, "Enter on another one's core", v, m, before)
	wantErrno(t, "Enter", v.Enter(m, 1, 0), api.OK)

	before = see(v, m)
	for _, n := range edgeInts {
		wantErrno(t, "Enter of what runs", v.Enter(m, n, 0), api.ErrState)
		wantErrno(t, "Enter of what runs", v.Enter(m, 0, n), api.ErrState)
		wantErrno(t, "Enter of what runs on another machine", v.Enter(board(t, 2), 0, n), api.ErrState)
	}
	wantAsBefore(t, "Enter of what runs", v, m, before)
	wantState(t, other, Running, 0)
	wantErrno(t, "Leave", other.Leave(m), api.OK)
	wantErrno(t, "Leave", v.Leave(m), api.OK)
}

// A context that somebody else put there is there, too.
func TestEnterOnTheCallersContext(t *testing.T) {
	m := board(t, 2)
	c := machine.Context{Guest: 0, File: csr.New(0)}
	wantErrno(t, "Put", m.Put(0, c), api.OK)
	v := inState(t, m, Ready)
	wantErrno(t, "Enter", v.Enter(m, 0, 0), api.ErrThere)
	wantState(t, v, Ready, -1)
	wantContext(t, m, 0, c)
	m.Take(0)
	wantErrno(t, "Enter", v.Enter(m, 0, 0), api.OK)
}

// One that leaves may enter another core, or another machine.
func TestEnterElsewhere(t *testing.T) {
	a, b := board(t, 2), board(t, 2)
	v := made(t, 2, 1, 0)
	for i, m := range []*machine.Machine{a, b, b, a} {
		core := i % 2
		wantErrno(t, "Enter", v.Enter(m, core, 0), api.OK)
		steps(t, m, core, 4)
		if r := v.Regs(m); r.X[1] != uint64(i+1) || r.Pc != 0 {
			t.Errorf("behind four steps: %v", r)
		}
		wantErrno(t, "Leave", v.Leave(m), api.OK)
		wantEmpty(t, m, core)
	}
	wantRegs(t, v, nil, api.Regs{X: [16]uint64{1: 4, 15: 10}, Mode: api.Kernel})
}

// steps lets a core step so many times.
func steps(t *testing.T, m *machine.Machine, core, n int) {
	t.Helper()
	for range n {
		if r, e := m.Step(core); r.Kind != hart.Done || e != api.OK {
			t.Fatalf("Step(%d) = %+v, %d", core, r, int(e))
		}
	}
}

// P18.2, P18.4: registers while it runs, and behind Leave.
func TestSteps(t *testing.T) {
	m := board(t, 2)
	v := made(t, 2, 1, 256)
	f := v.File()
	wantErrno(t, "Enter", v.Enter(m, 1, 0), api.OK)
	want := api.Regs{Pc: 256, Mode: api.Kernel}
	for i := range 40 {
		switch i % 4 {
		case 0:
			want.X[1]++
		case 2:
			want.X[15] += want.X[1]
		}
		want.Pc += 4
		if i%4 == 3 {
			want.Pc = 256
		}
		steps(t, m, 1, 1)
		wantRegs(t, v, m, want)
		wantImage(t, v, m, numbersOf(want, f))
		wantContext(t, m, 1, machine.Context{Guest: 2, Regs: want, File: f})
	}
	if v.File() != f || f.Get(csr.Scratch) != 10 {
		t.Errorf("Scratch is %d; want 10", f.Get(csr.Scratch))
	}
	steps(t, m, 1, 1)
	want.X[1], want.Pc = 11, 260
	wantErrno(t, "Leave", v.Leave(m), api.OK)
	wantState(t, v, Ready, -1)
	wantEmpty(t, m, 1)
	wantRegs(t, v, m, want)
	wantImage(t, v, m, numbersOf(want, f))
	if v.File() != f {
		t.Error("File() is another object behind Leave")
	}
}

// A trap that the hart goes into changes mode and control registers, too.
func TestStepsIntoTrap(t *testing.T) {
	m := board(t, 1)
	m.Memory().Store(2*256, 4, 0) // the word 0 is no instruction
	v := made(t, 2, 0, 0)
	l := sample(3)
	l[pcAt], l[modeAt] = 0, api.User
	l[controlAt+csr.Vector], l[controlAt+csr.Enable], l[controlAt+csr.Pending] = 256, 0, 0
	wantErrno(t, "Load", v.Load(l), api.OK)
	wantErrno(t, "Enter", v.Enter(m, 0, 0), api.OK)
	if _, e := m.Step(0); e != api.OK {
		t.Fatal(int(e))
	}
	wantErrno(t, "Leave", v.Leave(m), api.OK)
	l[0], l[29] = 0, 0
	l[pcAt], l[modeAt] = 256, api.Kernel
	l[controlAt+csr.Status] = 0
	l[controlAt+csr.Epc], l[controlAt+csr.Cause], l[controlAt+csr.Value] = 0, api.CauseIllegal, 0
	wantImage(t, v, m, l)
}

// P18.2: Leave where the core has not its context.
func TestLeaveNone(t *testing.T) {
	v := made(t, 3, 1, 0)
	twin := made(t, 3, 1, 0)
	for name, put := range map[string]func(m *machine.Machine){
		"an empty core":                           func(m *machine.Machine) {},
		"another guest's context":                 func(m *machine.Machine) { m.Put(1, machine.Context{Guest: 4, File: csr.New(1)}) },
		"another guest with its own registers":    func(m *machine.Machine) { m.Put(1, machine.Context{Guest: 4, File: v.File()}) },
		"the guest 0 with its own registers":      func(m *machine.Machine) { m.Put(1, machine.Context{File: v.File()}) },
		"other control registers that are alike":  func(m *machine.Machine) { m.Put(1, machine.Context{Guest: 3, File: v.File().Clone()}) },
		"another one of the guest":                func(m *machine.Machine) { twin.Enter(m, 1, 0) },
		"its context, but on another core":        func(m *machine.Machine) { m.Put(0, machine.Context{Guest: 3, File: v.File()}) },
		"a context of all else, and another core": func(m *machine.Machine) { m.Put(0, machine.Context{Guest: 9, File: csr.New(3), Root: 1}) },
	} {
		home, m := board(t, 2), board(t, 2)
		wantErrno(t, "Enter", v.Enter(home, 1, 0), api.OK)
		put(m)
		before, there := see(v, home), see(v, m)
		wantErrno(t, "Leave", v.Leave(m), api.ErrNone)
		wantAsBefore(t, name, v, home, before)
		wantAsBefore(t, name, v, m, there)
		// The same on its own machine, where somebody took it.
		c, _ := home.Take(1)
		put(home)
		before = see(v, home)
		wantErrno(t, "Leave", v.Leave(home), api.ErrNone)
		wantAsBefore(t, name, v, home, before)
		home.Take(0)
		home.Take(1)
		home.Put(1, c)
		wantErrno(t, "Leave", v.Leave(home), api.OK)
		twin.Leave(m)
		twin.Leave(home)
		if t.Failed() {
			t.Fatal(name)
		}
	}
}

// A machine with fewer cores has not its core.
func TestLeaveNoSuchCore(t *testing.T) {
	m, small := board(t, 8), board(t, 1)
	v := made(t, 3, 1, 0)
	wantErrno(t, "Enter", v.Enter(m, 7, 0), api.OK)
	wantErrno(t, "Leave", v.Leave(small), api.ErrNone)
	wantState(t, v, Running, 7)
	wantErrno(t, "Leave", v.Leave(m), api.OK)
}

// Its context is known by guest and control registers alone: what was set behind its back is what the core had.
func TestLeaveWithWhatTheCoreHad(t *testing.T) {
	m := board(t, 2)
	v := made(t, 3, 1, 0)
	wantErrno(t, "Enter", v.Enter(m, 1, 0), api.OK)
	c, _ := m.Take(1)
	c.Root = 2
	for i := range c.Regs.X {
		c.Regs.X[i] = math.MaxUint64 - uint64(i)
	}
	c.Regs.Pc, c.Regs.Mode = 1<<63+3, api.User
	wantErrno(t, "Put", m.Put(1, c), api.OK)
	wantRegs(t, v, m, c.Regs)
	wantImage(t, v, m, numbersOf(c.Regs, v.File()))
	wantErrno(t, "Leave", v.Leave(m), api.OK)
	wantRegs(t, v, m, c.Regs)
	wantImage(t, v, m, numbersOf(c.Regs, v.File()))
	wantEmpty(t, m, 1)
}

// Two of a guest on two cores do not disturb one another.
func TestTwoCores(t *testing.T) {
	m := board(t, 2)
	a, b := made(t, 1, 0, 0), made(t, 1, 1, 256)
	wantErrno(t, "Enter", a.Enter(m, 0, 0), api.OK)
	wantErrno(t, "Enter", b.Enter(m, 1, 0), api.OK)
	steps(t, m, 0, 4)
	steps(t, m, 1, 9)
	wantErrno(t, "Leave", b.Leave(m), api.OK)
	steps(t, m, 0, 4)
	wantErrno(t, "Leave", a.Leave(m), api.OK)
	wantRegs(t, a, m, api.Regs{X: [16]uint64{1: 2, 15: 3}, Mode: api.Kernel})
	wantRegs(t, b, m, api.Regs{X: [16]uint64{1: 3, 15: 3}, Pc: 260, Mode: api.Kernel})
	if a.File() == b.File() || a.File().Get(csr.Scratch) != 2 || b.File().Get(csr.Scratch) != 2 {
		t.Error("the control registers are not their own")
	}
}

// P18.4: SetRegs in every state but Running, with any numbers.
func TestSetRegs(t *testing.T) {
	m := board(t, 2)
	for _, state := range []int{Ready, Blocked, Stopped} {
		v := inState(t, m, state)
		file := v.File()
		control := v.Image(m)
		for _, mode := range edgeInts {
			for _, n := range edgeNumbers {
				r := api.Regs{Pc: n + 4, Mode: mode}
				for i := range r.X {
					r.X[i] = n - uint64(i)
				}
				was := r
				wantErrno(t, "SetRegs", v.SetRegs(m, r), api.OK)
				if r != was {
					t.Errorf("what was handed in is %v; want %v", r, was)
				}
				want := r
				want.X[0], want.Mode = 0, mode&1
				wantRegs(t, v, m, want)
				image := numbersOf(want, file)
				copy(image[18:], control[18:])
				wantImage(t, v, m, image)
			}
		}
		wantState(t, v, state, -1)
		if v.File() != file {
			t.Error("File() is another object behind SetRegs")
		}
	}
}

func TestSetRegsOfWhatRuns(t *testing.T) {
	m := board(t, 2)
	v := inState(t, m, Running)
	before := see(v, m)
	wantErrno(t, "SetRegs", v.SetRegs(m, api.Regs{Pc: 4}), api.ErrState)
	wantErrno(t, "SetRegs by another machine", v.SetRegs(newMachine(t, 1), api.Regs{Pc: 4}), api.ErrState)
	wantErrno(t, "Load", v.Load(sample(2)), api.ErrState)
	wantErrno(t, "Load", v.Load([30]uint64{}), api.ErrState)
	wantAsBefore(t, "what runs", v, m, before)
	wantErrno(t, "Leave", v.Leave(m), api.OK)
	if l := v.Image(m); l != before.image {
		t.Errorf("Image() = %v; want %v", l, before.image)
	}
}

// P18.4: what was set is what runs.
func TestSetThenEnter(t *testing.T) {
	m := board(t, 2)
	v := made(t, 3, 2, 0)
	wantErrno(t, "SetRegs", v.SetRegs(m, api.Regs{X: [16]uint64{9, 1 << 40}, Pc: 264, Mode: 6}), api.OK)
	wantErrno(t, "Enter", v.Enter(m, 0, 0), api.OK)
	wantContext(t, m, 0, machine.Context{Guest: 3, Regs: api.Regs{X: [16]uint64{1: 1 << 40}, Pc: 264, Mode: api.User}, File: v.File()})
	steps(t, m, 0, 1)
	if r := v.Regs(m); r.X[15] != 1<<40 || r.Pc != 268 {
		t.Errorf("Regs() = %v", r)
	}
}

// P18.4, P18.5: Load in every state but Running, with any numbers.
func TestLoad(t *testing.T) {
	m := board(t, 2)
	for _, state := range []int{Ready, Blocked, Stopped} {
		v := inState(t, m, state)
		file := v.File()
		for _, n := range edgeNumbers {
			var l [30]uint64
			for i := range l {
				l[i] = n + uint64(i)*3
			}
			for _, mode := range edgeNumbers {
				l[17] = mode
				was := l
				wantErrno(t, "Load", v.Load(l), api.OK)
				if l != was {
					t.Errorf("what was handed in is %v; want %v", l, was)
				}
				want := l
				want[0], want[17], want[29] = 0, mode%2, 2
				wantImage(t, v, m, want)
				if r := v.Regs(m); numbersOf(r, file) != want {
					t.Errorf("Regs() = %v; want those of %v", r, want)
				}
				if t.Failed() {
					t.Fatalf("Load(%v)", l)
				}
			}
		}
		wantState(t, v, state, -1)
		wantName(t, v, 3, 2)
		if v.File() != file {
			t.Error("File() is another object behind Load")
		}
	}
}

// Each number has its own place.
func TestLoadOfOne(t *testing.T) {
	for place := range 30 {
		for _, n := range edgeNumbers {
			v := made(t, 3, 2, 77)
			var l [30]uint64
			l[place] = n
			wantErrno(t, "Load", v.Load(l), api.OK)
			want := l
			want[0], want[29] = 0, 2
			want[17] %= 2
			wantImage(t, v, nil, want)
			r := v.Regs(nil)
			switch {
			case place > 0 && place < 16 && r.X[place] != n, place == 16 && r.Pc != n, place == 17 && r.Mode != int(n%2):
				t.Errorf("the place %d is %d: Regs() = %v", place, n, r)
			case place >= 18 && place < 29 && v.File().Get(place-18) != n:
				t.Errorf("the place %d is %d: the register is %d", place, n, v.File().Get(place-18))
			}
		}
	}
}

// Hartid is as it was, also where somebody set it.
func TestLoadLeavesHartid(t *testing.T) {
	for _, id := range edgeNumbers {
		v := made(t, 3, 2, 0)
		v.File().Set(csr.Hartid, id)
		wantErrno(t, "Load", v.Load(sample(5)), api.OK)
		if got := v.File().Get(csr.Hartid); got != id {
			t.Errorf("Hartid = %d; want %d", got, id)
		}
		if l := v.Image(nil); l[29] != id {
			t.Errorf("Image()[29] = %d; want %d", l[29], id)
		}
	}
}

// P18.4: its control registers are one object for ever; what is set there, others see.
func TestFile(t *testing.T) {
	m := board(t, 2)
	v := made(t, 3, 2, 0)
	f := v.File()
	if f == nil {
		t.Fatal("File() = nil")
	}
	set := func(n uint64) {
		t.Helper()
		if v.File() != f {
			t.Error("File() is another object")
		}
		f.Set(csr.Scratch, n)
		if l := v.Image(m); l[18+csr.Scratch] != n {
			t.Errorf("Image() has %d; want %d", l[18+csr.Scratch], n)
		}
	}
	set(1)
	v.Enter(m, 1, 0)
	set(2)
	steps(t, m, 1, 4)
	if n := f.Get(csr.Scratch); n != 1 {
		t.Errorf("Scratch = %d behind the steps; want 1", n)
	}
	set(3)
	v.Leave(m)
	set(4)
	v.Block()
	set(5)
	v.Load(sample(1))
	set(6)
	v.Stop()
	set(7)
}

// P18.5: with no step between, all is as it was.
func TestEnterAndLeave(t *testing.T) {
	m := board(t, 2)
	for _, n := range edgeNumbers {
		v := made(t, 16, 3, 0)
		var l [30]uint64
		for i := range l {
			l[i] = n - uint64(i)*uint64(i)
		}
		v.Load(l)
		before := see(v, m)
		for core := range 2 {
			wantErrno(t, "Enter", v.Enter(m, core, core+1), api.OK)
			wantImage(t, v, m, before.image)
			wantErrno(t, "Leave", v.Leave(m), api.OK)
			wantAsBefore(t, "Enter and Leave", v, m, before)
		}
	}
}

// P18.5: an image is the same one in another.
func TestImageIntoAnother(t *testing.T) {
	m := board(t, 2)
	a, b := made(t, 1, 0, 0), made(t, 7, 3, 256)
	a.Enter(m, 0, 0)
	steps(t, m, 0, 7)
	wantErrno(t, "Load", b.Load(a.Image(m)), api.OK)
	want := a.Image(m)
	want[29] = 3
	wantImage(t, b, m, want)
	wantName(t, b, 7, 3)
	wantErrno(t, "Enter", b.Enter(m, 1, 0), api.OK)
	steps(t, m, 0, 5)
	steps(t, m, 1, 5)
	want = a.Image(m)
	want[29] = 3
	wantImage(t, b, m, want)
}

// DOC.md, rule 4: what was handed in or out may be changed.
func TestNothingIsShared(t *testing.T) {
	m := board(t, 2)
	for _, state := range states {
		v := inState(t, m, state)
		before := see(v, m)
		r, l := v.Regs(m), v.Image(m)
		for i := range r.X {
			r.X[i]++
		}
		r.Pc, r.Mode = 99, 5
		for i := range l {
			l[i]++
		}
		wantAsBefore(t, "what was told is changed", v, m, before)
		if state == Running {
			v.Leave(m)
		}
	}
	v := inState(t, m, Ready)
	l, r := sample(6), api.Regs{Pc: 44}
	v.Load(l)
	before := see(v, m)
	l[5]++
	wantAsBefore(t, "what was loaded is changed", v, m, before)
	v.SetRegs(m, r)
	before = see(v, m)
	r.X[5]++
	wantAsBefore(t, "what was set is changed", v, m, before)
}
