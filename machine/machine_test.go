package machine

import (
	"math"
	"slices"
	"testing"

	"palisade/api"
	"palisade/csr"
	"palisade/hart"
)

// edgeInts are numbers at both ends of int, and around the edges within.
var edgeInts = []int{
	math.MinInt, math.MinInt + 1, math.MinInt32 - 1, math.MinInt32, -65536, -256, -9, -8, -2, -1, 0, 1, 2, 3, 4, 7, 8, 9, 15, 16, 17, 255, 256,
	api.MaxFrames - 1, api.MaxFrames, api.MaxFrames + 1, math.MaxInt32, 1 << 32, 1<<32 + 1, 1 << 56, 1 << 62, math.MaxInt - 1, math.MaxInt,
}

func newMachine(t *testing.T, cores, frames int) *Machine {
	t.Helper()
	m, e := New(cores, frames)
	if m == nil || e != api.OK {
		t.Fatalf("New(%d, %d) = %v, %d", cores, frames, m, int(e))
	}
	return m
}

func wantErrno(t *testing.T, what string, e, want api.Errno) {
	t.Helper()
	if e != want {
		t.Errorf("%s = %d; want %d", what, int(e), int(want))
	}
}

func wantContext(t *testing.T, m *Machine, core int, want Context) {
	t.Helper()
	if c, ok := m.Get(core); c != want || !ok {
		t.Errorf("Get(%d) = %+v, %v; want %+v, true", core, c, ok, want)
	}
}

func wantNone(t *testing.T, m *Machine, core int) {
	t.Helper()
	if c, ok := m.Get(core); c != (Context{}) || ok {
		t.Errorf("Get(%d) = %+v, %v; want none", core, c, ok)
	}
}

func wantTake(t *testing.T, m *Machine, core int, want Context) {
	t.Helper()
	if c, e := m.Take(core); c != want || e != api.OK {
		t.Errorf("Take(%d) = %+v, %d; want %+v, 0", core, c, int(e), want)
	}
}

func wantNoTake(t *testing.T, m *Machine, core int, want api.Errno) {
	t.Helper()
	if c, e := m.Take(core); c != (Context{}) || e != want {
		t.Errorf("Take(%d) = %+v, %d; want the zero one, %d", core, c, int(e), int(want))
	}
}

func wantNoStep(t *testing.T, m *Machine, core int, want api.Errno) {
	t.Helper()
	if r, e := m.Step(core); r != (hart.Result{}) || e != want {
		t.Errorf("Step(%d) = %+v, %d; want the zero one, %d", core, r, int(e), int(want))
	}
}

func wantFlush(t *testing.T, m *Machine, core, guest, want int) {
	t.Helper()
	if n, e := m.Flush(core, guest); n != want || e != api.OK {
		t.Errorf("Flush(%d, %d) = %d, %d; want %d, 0", core, guest, n, int(e), want)
	}
}

func wantKept(t *testing.T, m *Machine, core, guest int, want ...int) {
	t.Helper()
	if l := m.Kept(core, guest); !slices.Equal(l, want) {
		t.Errorf("Kept(%d, %d) = %v; want %v", core, guest, l, want)
	}
}

// context tells one that may be, with all registers set.
func context(guest, root int) Context {
	c := Context{Guest: guest, File: csr.New(guest), Root: root}
	for i := range c.Regs.X {
		c.Regs.X[i] = uint64(100*i + guest)
	}
	c.Regs.Pc, c.Regs.Mode = 1<<40+4, api.Kernel
	return c
}

func TestExample(t *testing.T) {
	m := newMachine(t, 1, 4)
	c := context(3, 0)
	wantErrno(t, "Put", m.Put(0, c), api.OK)
	wantContext(t, m, 0, c)
	wantErrno(t, "Put again", m.Put(0, c), api.ErrThere)
	wantTake(t, m, 0, c)
	wantNoStep(t, m, 0, api.ErrNone)
}

func TestNewCores(t *testing.T) {
	for _, cores := range append([]int{5, 6, 10, 64}, edgeInts...) {
		m, e := New(cores, 3)
		if cores < 1 || cores > api.MaxCores {
			if m != nil || e != api.ErrArg {
				t.Errorf("New(%d, 3) = %v, %d; want nil, %d", cores, m, int(e), int(api.ErrArg))
			}
			continue
		}
		if m == nil || e != api.OK {
			t.Errorf("New(%d, 3) = %v, %d", cores, m, int(e))
			continue
		}
		if n := m.Cores(); n != cores {
			t.Errorf("Cores() = %d; want %d", n, cores)
		}
		for core := range cores {
			wantNone(t, m, core)
			wantNoTake(t, m, core, api.ErrNone)
			wantNoStep(t, m, core, api.ErrNone)
			wantFlush(t, m, core, 0, 0)
			wantKept(t, m, core, 0)
		}
		wantNoTake(t, m, cores, api.ErrArg)
	}
}

func TestNewFrames(t *testing.T) {
	for _, frames := range edgeInts {
		for _, cores := range []int{-1, 0, 1, api.MaxCores, api.MaxCores + 1} {
			m, e := New(cores, frames)
			if cores < 1 || cores > api.MaxCores || frames < 1 || frames > api.MaxFrames {
				if m != nil || e != api.ErrArg {
					t.Errorf("New(%d, %d) = %v, %d; want nil, %d", cores, frames, m, int(e), int(api.ErrArg))
				}
				continue
			}
			if m == nil || e != api.OK {
				t.Errorf("New(%d, %d) = %v, %d", cores, frames, m, int(e))
				continue
			}
			if n := m.Memory().Frames(); n != frames {
				t.Errorf("New(%d, %d): Frames() = %d", cores, frames, n)
			}
			last := uint64(frames)*api.Page - 8
			if v, e := m.Memory().Load(last, 8); v != 0 || e != api.OK {
				t.Errorf("the last number of %d frames is %d, %d", frames, v, int(e))
			}
		}
	}
}

func TestMemory(t *testing.T) {
	m, other := newMachine(t, 2, 4), newMachine(t, 2, 4)
	first := m.Memory()
	first.Store(8, 8, 77)
	if m.Memory() != first || m.Memory() != first {
		t.Error("Memory is not the same object each time")
	}
	if v, _ := m.Memory().Load(8, 8); v != 77 {
		t.Errorf("what was stored is %d; want 77", v)
	}
	if other.Memory() == first {
		t.Error("two machines have one memory")
	}
	if v, _ := other.Memory().Load(8, 8); v != 0 {
		t.Errorf("of another machine it is %d; want 0", v)
	}
}

func TestPutOntoEachCore(t *testing.T) {
	for cores := 1; cores <= api.MaxCores; cores++ {
		m := newMachine(t, cores, 4)
		var all []Context
		for core := range cores {
			for later := core; later < cores; later++ {
				wantNone(t, m, later)
			}
			c := context(core, core%4)
			all = append(all, c)
			wantErrno(t, "Put", m.Put(core, c), api.OK)
			wantErrno(t, "Put again", m.Put(core, context(9, 0)), api.ErrThere)
			for i, c := range all {
				wantContext(t, m, i, c)
			}
		}
		for core, c := range all {
			wantTake(t, m, core, c)
			wantNoTake(t, m, core, api.ErrNone)
			wantNone(t, m, core)
			for later := core + 1; later < cores; later++ {
				wantContext(t, m, later, all[later])
			}
			again := context(core+20, 3)
			wantErrno(t, "Put behind Take", m.Put(core, again), api.OK)
			wantContext(t, m, core, again)
		}
	}
}

func TestPutOntoNoCore(t *testing.T) {
	for cores := 1; cores <= api.MaxCores; cores++ {
		m := newMachine(t, cores, 4)
		had := context(2, 1)
		m.Put(0, had)
		for _, core := range append([]int{cores}, edgeInts...) {
			if core >= 0 && core < cores {
				continue
			}
			wantErrno(t, "Put onto no core", m.Put(core, context(1, 0)), api.ErrArg)
			wantNone(t, m, core)
			wantNoTake(t, m, core, api.ErrArg)
			wantNoStep(t, m, core, api.ErrArg)
			for _, guest := range edgeInts {
				if n, e := m.Flush(core, guest); n != 0 || e != api.ErrArg {
					t.Errorf("Flush(%d, %d) = %d, %d; want 0, %d", core, guest, n, int(e), int(api.ErrArg))
				}
				wantKept(t, m, core, guest)
			}
		}
		wantContext(t, m, 0, had)
		for core := 1; core < cores; core++ {
			wantNone(t, m, core)
		}
	}
}

func TestPutWithoutFile(t *testing.T) {
	m := newMachine(t, 2, 4)
	had := context(1, 0)
	m.Put(1, had)
	for _, f := range []*csr.File{nil, {}, new(csr.File)} {
		c := context(2, 0)
		c.File = f
		wantErrno(t, "Put without a file", m.Put(0, c), api.ErrArg)
		wantNone(t, m, 0)
		wantErrno(t, "Put without a file onto a core that has one", m.Put(1, c), api.ErrArg)
		wantContext(t, m, 1, had)
	}
	c := context(2, 0)
	c.File = c.File.Clone()
	wantErrno(t, "Put with a clone", m.Put(0, c), api.OK)
}

func TestPutGuestAndRoot(t *testing.T) {
	for _, frames := range []int{1, 2, 4, 256, api.MaxFrames} {
		m := newMachine(t, 2, frames)
		had := context(1, 0)
		m.Put(1, had)
		for _, guest := range edgeInts {
			for _, root := range append([]int{frames - 1, frames, frames + 1}, edgeInts...) {
				c := context(guest, root)
				if guest < 0 || root < 0 || root >= frames {
					wantErrno(t, "Put of what may not be", m.Put(0, c), api.ErrArg)
					wantErrno(t, "Put of what may not be, onto a core that has one", m.Put(1, c), api.ErrArg)
					wantNone(t, m, 0)
					continue
				}
				wantErrno(t, "Put", m.Put(0, c), api.OK)
				wantErrno(t, "Put onto a core that has one", m.Put(1, c), api.ErrThere)
				wantTake(t, m, 0, c)
			}
		}
		wantContext(t, m, 1, had)
	}
}

// TestContextsAreValues: what is handed in and out is not the core's own, but for the file.
func TestContextsAreValues(t *testing.T) {
	m := newMachine(t, 1, 4)
	c := context(1, 2)
	was := c
	m.Put(0, c)
	c.Guest, c.Root, c.Regs.Pc, c.Regs.X[5], c.File = 9, 3, 8, 8, nil
	wantContext(t, m, 0, was)
	got, _ := m.Get(0)
	got.Guest, got.Root, got.Regs.Pc, got.Regs.X[5], got.File = 9, 3, 8, 8, nil
	wantContext(t, m, 0, was)
	was.File.Set(csr.Scratch, 5)
	if again, _ := m.Get(0); again.File != was.File || again.File.Get(csr.Scratch) != 5 {
		t.Error("the file is not the one that was put")
	}
}

func TestAnyRegistersAreTold(t *testing.T) {
	m := newMachine(t, 1, 1)
	for _, v := range []uint64{0, 1, 1 << 18, 1 << 63, math.MaxUint64} {
		for _, mode := range edgeInts {
			c := context(0, 0)
			for i := range c.Regs.X {
				c.Regs.X[i] = v - uint64(i)
			}
			c.Regs.Pc, c.Regs.Mode = v, mode
			wantErrno(t, "Put", m.Put(0, c), api.OK)
			wantContext(t, m, 0, c)
			wantTake(t, m, 0, c)
		}
	}
}

func TestTwoMachinesAreApart(t *testing.T) {
	a, b := newMachine(t, 2, 4), newMachine(t, 2, 4)
	c := context(1, 0)
	a.Put(0, c)
	wantNone(t, b, 0)
	wantErrno(t, "Put onto another machine", b.Put(0, c), api.OK)
	b.Take(0)
	wantContext(t, a, 0, c)
}

func TestNoMachine(t *testing.T) {
	var none *Machine
	for _, m := range []*Machine{none, {}, new(Machine)} {
		if m.Cores() != 0 || m.Memory() != nil {
			t.Errorf("Cores() = %d, Memory() = %v; want 0, nil", m.Cores(), m.Memory())
		}
		for _, core := range edgeInts {
			wantErrno(t, "Put", m.Put(core, context(1, 0)), api.ErrNil)
			wantErrno(t, "Put of what may not be", m.Put(core, Context{Guest: -1, Root: -1}), api.ErrNil)
			wantNone(t, m, core)
			wantNoTake(t, m, core, api.ErrNil)
			wantNoStep(t, m, core, api.ErrNil)
			for _, guest := range edgeInts {
				if n, e := m.Flush(core, guest); n != 0 || e != api.ErrNil {
					t.Errorf("Flush(%d, %d) = %d, %d; want 0, %d", core, guest, n, int(e), int(api.ErrNil))
				}
				wantKept(t, m, core, guest)
			}
		}
	}
}

func TestFlushAndKeptOfNoGuest(t *testing.T) {
	m := newMachine(t, 2, 4)
	m.Put(0, context(1, 0))
	for core := range 2 {
		for _, guest := range edgeInts {
			wantFlush(t, m, core, guest, 0)
			wantKept(t, m, core, guest)
		}
	}
}
