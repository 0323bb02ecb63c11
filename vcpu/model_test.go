package vcpu

import (
	"testing"

	"palisade/api"
	"palisade/csr"
	"palisade/machine"
)

// scatter gives numbers that follow no plain order, always the same ones.
type scatter uint64

func (s *scatter) next() uint64 {
	*s = *s*6364136223846793005 + 1442695040888963407
	return uint64(*s>>33) ^ uint64(*s)<<31
}

// from tells a number from low to high, both of them too.
func (s *scatter) from(low, high int) int {
	return low + int(s.next()%uint64(high-low+1))
}

// number tells one of 64 bits, often an edge.
func (s *scatter) number() uint64 {
	if s.from(0, 2) == 0 {
		return edgeNumbers[s.from(0, len(edgeNumbers)-1)]
	}
	return s.next()
}

// paper is what the chapter says of a virtual processor, written down plainly: a context that is put onto the cores of twin machines by hand.
type paper struct {
	guest, index int
	state, core  int
	regs         api.Regs
	file         *csr.File
}

// world is some machines, their twins, and virtual processors with what is to be told of them.
type world struct {
	machines, twins []*machine.Machine
	all             []*Vcpu
	papers          []*paper
}

func newWorld(t *testing.T, s *scatter) *world {
	t.Helper()
	w := &world{}
	for range 2 {
		cores := s.from(1, 4)
		w.machines = append(w.machines, board(t, cores))
		w.twins = append(w.twins, board(t, cores))
	}
	for range s.from(1, 6) {
		guest, index, pc := s.from(1, 3), s.from(0, 3), uint64(s.from(0, 127)*4)
		w.all = append(w.all, made(t, guest, index, pc))
		w.papers = append(w.papers, &paper{guest, index, Ready, -1, api.Regs{Pc: pc, Mode: 1}, csr.New(index)})
	}
	return w
}

func (p *paper) entered(twin *machine.Machine, core, root int) api.Errno {
	if p.state != Ready {
		return api.ErrState
	}
	e := twin.Put(core, machine.Context{Guest: p.guest, Regs: p.regs, File: p.file, Root: root})
	if e == api.OK {
		p.state, p.core = Running, core
	}
	return e
}

func (p *paper) left(twin *machine.Machine) api.Errno {
	if p.state != Running {
		return api.ErrState
	}
	c, ok := twin.Get(p.core)
	if !ok || c.Guest != p.guest || c.File != p.file {
		return api.ErrNone
	}
	twin.Take(p.core)
	p.regs, p.state, p.core = c.Regs, Ready, -1
	return api.OK
}

func (p *paper) blocked() api.Errno {
	if p.state != Ready {
		return api.ErrState
	}
	p.state = Blocked
	return api.OK
}

func (p *paper) woken() api.Errno {
	if p.state != Blocked {
		return api.ErrState
	}
	p.state = Ready
	return api.OK
}

func (p *paper) stopped() api.Errno {
	if p.state == Running || p.state == Stopped {
		return api.ErrState
	}
	p.state = Stopped
	return api.OK
}

func (p *paper) set(r api.Regs) api.Errno {
	if p.state == Running {
		return api.ErrState
	}
	p.regs = r
	p.regs.X[0] = 0
	p.regs.Mode = r.Mode & 1
	return api.OK
}

func (p *paper) loaded(l [30]uint64) api.Errno {
	if p.state == Running {
		return api.ErrState
	}
	r := api.Regs{Pc: l[16], Mode: int(l[17] % 2)}
	for i := 1; i < 16; i++ {
		r.X[i] = l[i]
	}
	p.regs = r
	for n := range 11 {
		p.file.Set(n, l[18+n])
	}
	return api.OK
}

func (p *paper) now(twin *machine.Machine) api.Regs {
	if p.state != Running {
		return p.regs
	}
	c, _ := twin.Get(p.core)
	return c.Regs
}

// wantStep asks both for one thing, and holds the answers against each other.
func (w *world) wantStep(t *testing.T, s *scatter) {
	t.Helper()
	i, at := s.from(0, len(w.all)-1), s.from(0, 1)
	v, p, m, twin := w.all[i], w.papers[i], w.machines[at], w.twins[at]
	core, root := s.from(-1, 4), s.from(-1, 8)
	if root >= frames {
		root = 0 // the one that has tables
	}
	switch s.from(0, 19) {
	case 0, 1, 2, 3, 4:
		wantErrno(t, "Enter", v.Enter(m, core, root), p.entered(twin, core, root))
	case 5, 6, 7, 8:
		wantErrno(t, "Leave", v.Leave(m), p.left(twin))
	case 9:
		wantErrno(t, "Block", v.Block(), p.blocked())
	case 10, 11:
		wantErrno(t, "Wake", v.Wake(), p.woken())
	case 12:
		if s.from(0, 40) == 0 {
			wantErrno(t, "Stop", v.Stop(), p.stopped())
		}
	case 13:
		r := api.Regs{Pc: uint64(s.from(0, 127) * 4), Mode: int(s.number())}
		for i := range r.X {
			r.X[i] = s.number()
		}
		wantErrno(t, "SetRegs", v.SetRegs(m, r), p.set(r))
	case 14:
		l := s.image()
		wantErrno(t, "Load", v.Load(l), p.loaded(l))
	case 15:
		n, number := s.from(-1, 12), s.number()
		wantErrno(t, "Set", v.File().Set(n, number), p.file.Set(n, number))
	default:
		for range s.from(1, 5) {
			a, e := m.Step(core)
			if b, code := twin.Step(core); a != b || e != code {
				t.Errorf("Step(%d) = %+v, %d; want %+v, %d", core, a, int(e), b, int(code))
			}
		}
	}
}

// image tells numbers over the whole range, of which some let the program step.
func (s *scatter) image() [30]uint64 {
	var l [30]uint64
	for i := range l {
		l[i] = s.number()
	}
	if s.from(0, 1) == 0 {
		l[16], l[18+csr.Satp], l[18+csr.Vector] = uint64(s.from(0, 127)*4), 0, 256
	}
	return l
}

// wantWorld looks at all that is told, and at all cores.
func (w *world) wantWorld(t *testing.T) {
	t.Helper()
	for i, v := range w.all {
		p := w.papers[i]
		wantName(t, v, p.guest, p.index)
		wantState(t, v, p.state, p.core)
		for at, m := range w.machines {
			regs := p.now(w.twins[at])
			wantRegs(t, v, m, regs)
			wantImage(t, v, m, numbersOf(regs, p.file))
		}
	}
	for at, m := range w.machines {
		for core := range m.Cores() {
			w.wantCore(t, at, core)
		}
		if !m.Memory().Same(w.twins[at].Memory()) {
			t.Errorf("the memories of the machine %d are not the same", at)
		}
	}
}

// wantCore holds a core's context against the twin's: their files are those of one and the same.
func (w *world) wantCore(t *testing.T, at, core int) {
	t.Helper()
	c, ok := w.machines[at].Get(core)
	want, is := w.twins[at].Get(core)
	for i, p := range w.papers {
		if is && want.File == p.file {
			want.File = w.all[i].File()
		}
	}
	if c != want || ok != is {
		t.Errorf("the core %d of the machine %d has %+v, %v; want %+v, %v", core, at, c, ok, want, is)
	}
}

func TestAgainstPaper(t *testing.T) {
	for seed := range 40 {
		s := scatter(seed)
		w := newWorld(t, &s)
		for number := range 600 {
			w.wantStep(t, &s)
			w.wantWorld(t)
			if t.Failed() {
				t.Fatalf("seed %d, call %d", seed, number)
			}
		}
	}
}

// P18.5 over many numbers.
func TestAsItWas(t *testing.T) {
	s := scatter(99)
	m := board(t, 2)
	for range 3000 {
		v := made(t, s.from(1, 16), s.from(0, 3), s.number())
		l := s.image()
		wantErrno(t, "Load", v.Load(l), api.OK)
		_, index := v.Name()
		l[0], l[17], l[29] = 0, l[17]%2, uint64(index)
		wantImage(t, v, m, l)
		before := see(v, m)
		wantErrno(t, "Enter", v.Enter(m, s.from(0, 1), s.from(0, 3)), api.OK)
		wantImage(t, v, m, l)
		wantErrno(t, "Leave", v.Leave(m), api.OK)
		wantAsBefore(t, "Enter and Leave", v, m, before)
		if t.Failed() {
			t.Fatalf("%v", l)
		}
	}
}

// The same calls are answered alike, whatever others were asked between (DOC.md, rule 5).
func TestAnsweredAlike(t *testing.T) {
	s, noise := scatter(5), scatter(6)
	m, n, away := board(t, 2), board(t, 2), board(t, 2)
	a, b, other := made(t, 2, 1, 0), made(t, 2, 1, 0), made(t, 2, 1, 0)
	for range 3000 {
		what, core, l := s.from(0, 6), s.from(0, 2), s.image()
		var told [2]api.Errno
		for i, v := range []*Vcpu{a, b} {
			on := []*machine.Machine{m, n}[i]
			told[i] = []func() api.Errno{
				func() api.Errno { return v.Enter(on, core, 0) },
				func() api.Errno { return v.Leave(on) },
				v.Block, v.Wake, v.Wake,
				func() api.Errno { return v.Load(l) },
				func() api.Errno { _, e := on.Step(core); return e },
			}[what]()
			for range noise.from(0, 3) {
				other.Enter(away, noise.from(0, 1), 0)
				away.Step(noise.from(0, 1))
				other.Leave(away)
				other.Load(noise.image())
			}
		}
		if told[0] != told[1] || a.Image(m) != b.Image(n) || a.Regs(m) != b.Regs(n) {
			t.Fatalf("the call %d: %d, then %d", what, int(told[0]), int(told[1]))
		}
	}
}
