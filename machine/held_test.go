package machine

import (
	"testing"

	"palisade/api"
	"palisade/csr"
	"palisade/hart"
)

// heldAt is an address of the guest 0's, and where it lies in the memory.
const heldAt = 8*api.Page + 16

func heldFrame() uint64 { return uint64(frameOf(0, 8))*pageBytes + 16 }

// holding makes a machine whose core 0 holds heldAt, beside cores of the same guest, and of the guest 1, whose page 8 is the same frame.
func holding(t *testing.T) *rig {
	t.Helper()
	r := newRig(t, 3)
	r.second(1, 8, rwx(frameOf(0, 8)))
	r.wait(0, who{0, api.Kernel, -1})
	r.wait(1, who{0, api.Kernel, -1})
	r.wait(2, who{1, api.Kernel, -1})
	r.store(heldFrame(), 70)
	if regs := r.steps(0, "lr x3, x1", heldAt, 0); regs.X[3] != 70 {
		t.Fatalf("lr tells %d; want 70", regs.X[3])
	}
	return r
}

// isHeld asks by an sc of the core 0 at heldAt, which is done just if it is held.
func (r *rig) isHeld(want bool, name string) {
	r.t.Helper()
	was := r.load(heldFrame())
	regs := r.steps(0, "sc x3, x1, x2", heldAt, 4321)
	refused, left := uint64(0), uint64(4321)
	if !want {
		refused, left = 1, was
	}
	if v := r.load(heldFrame()); regs.X[3] != refused || v != left {
		r.t.Errorf("%s: sc tells %d, and %d stands there; want %d, %d", name, regs.X[3], v, refused, left)
	}
	// Whether it was done or not, it holds nothing any more.
	if regs := r.steps(0, "sc x3, x1, x2", heldAt, 55); regs.X[3] != 1 || r.load(heldFrame()) != left {
		r.t.Errorf("%s: a second sc tells %d", name, regs.X[3])
	}
}

func TestHeld(t *testing.T) {
	r := newRig(t, 3)
	r.wait(0, who{0, api.Kernel, -1})
	r.isHeld(false, "nothing was held")
	holding(t).isHeld(true, "nothing between")
}

// TestHeldAndStores: any core's store into the same eight bytes lets go, and none elsewhere.
func TestHeldAndStores(t *testing.T) {
	for core := range 3 {
		for _, c := range []struct {
			text string
			at   uint64
			held bool
		}{
			{"sd x2, 0(x1)", heldAt, false}, {"sw x2, 0(x1)", heldAt, false}, {"sw x2, 4(x1)", heldAt, false}, {"sb x2, 0(x1)", heldAt, false},
			{"sb x2, 1(x1)", heldAt, false}, {"sb x2, 3(x1)", heldAt, false}, {"sb x2, 7(x1)", heldAt, false}, {"amoadd x3, x1, x2", heldAt, false}, {"amoswp x3, x1, x2", heldAt, false},
			{"sd x2, 8(x1)", heldAt, true}, {"sd x2, -8(x1)", heldAt, true}, {"sw x2, 8(x1)", heldAt, true}, {"sw x2, -4(x1)", heldAt, true},
			{"sb x2, 8(x1)", heldAt, true}, {"sb x2, -1(x1)", heldAt, true}, {"amoadd x3, x1, x2", heldAt + 8, true}, {"amoswp x3, x1, x2", heldAt - 8, true},
			{"sd x2, 0(x1)", heldAt + api.Page, true}, {"sd x2, 0(x1)", heldAt - api.Page, true}, {"sd x2, 0(x1)", 0xf0, true},
			{"ld x3, 0(x1)", heldAt, true}, {"lw x3, 0(x1)", heldAt, true}, {"lb x3, 7(x1)", heldAt, true}, {"fence", 0, true}, {"sfence x0", 0, true}, {"addi x3, x0, 1", 0, true},
		} {
			r := holding(t)
			r.steps(core, c.text, c.at, 9)
			r.isHeld(c.held, c.text)
			if t.Failed() {
				t.Fatalf("core %d: %s of %#x", core, c.text, c.at)
			}
		}
	}
}

// TestHeldByMany: a store lets go of all cores' at once, and of those alone that hold the same eight bytes.
func TestHeldByMany(t *testing.T) {
	r := holding(t)
	r.steps(1, "lr x3, x1", heldAt, 0)
	r.steps(2, "lr x3, x1", heldAt+8, 0)
	r.steps(1, "sd x2, 0(x1)", heldAt, 5)
	r.isHeld(false, "all hold")
	if regs := r.steps(1, "sc x3, x1, x2", heldAt, 7); regs.X[3] != 1 {
		t.Error("its own store did not let go")
	}
	if regs := r.steps(2, "sc x3, x1, x2", heldAt+8, 7); regs.X[3] != 0 {
		t.Error("a store elsewhere let go")
	}
	// The one that is first takes it from the others.
	r = holding(t)
	r.steps(1, "lr x3, x1", heldAt, 0)
	if regs := r.steps(1, "sc x3, x1, x2", heldAt, 7); regs.X[3] != 0 || r.load(heldFrame()) != 7 {
		t.Errorf("sc tells %d", regs.X[3])
	}
	r.isHeld(false, "another core's sc")
	// One that is refused stores nothing, and takes nothing.
	r = holding(t)
	if regs := r.steps(1, "sc x3, x1, x2", heldAt, 7); regs.X[3] != 1 {
		t.Errorf("sc tells %d", regs.X[3])
	}
	r.isHeld(true, "another core's sc that was refused")
}

// TestHeldIsOne: a core holds one address, the last one; asking for another lets it go.
func TestHeldIsOne(t *testing.T) {
	r := holding(t)
	r.steps(0, "lr x3, x1", heldAt+8, 0)
	r.isHeld(false, "another address is held")
	r = holding(t)
	if regs := r.steps(0, "sc x3, x1, x2", heldAt+8, 7); regs.X[3] != 1 {
		t.Errorf("sc of another address tells %d", regs.X[3])
	}
	r.isHeld(false, "asked for another address")
	r = holding(t)
	r.steps(0, "lr x3, x1", heldAt+8, 0)
	r.steps(1, "sd x2, 0(x1)", heldAt, 5)
	if regs := r.steps(0, "sc x3, x1, x2", heldAt+8, 7); regs.X[3] != 0 {
		t.Error("a store of what was held ahead let go")
	}
}

// TestHeldIsTheMemorys: what is held is the memory's address, whatever the program's is.
func TestHeldIsTheMemorys(t *testing.T) {
	r := holding(t)
	r.second(0, 9, rwx(frameOf(0, 8)))
	r.steps(1, "sd x2, 0(x1)", heldAt+api.Page, 5)
	r.isHeld(false, "a store through another page")
	r = holding(t)
	r.second(0, 9, rwx(frameOf(0, 8)))
	if regs := r.steps(0, "sc x3, x1, x2", heldAt+api.Page, 5); regs.X[3] != 0 || r.load(heldFrame()) != 5 {
		t.Errorf("sc through another page tells %d", regs.X[3])
	}
	r = holding(t)
	r.second(1, 8, rwx(frameOf(1, 8)))
	r.steps(2, "sd x2, 0(x1)", heldAt, 5)
	r.isHeld(true, "a store of the same address in another frame")
}

// TestHeldAtTheFirstAddress: 0 is an address like others.
func TestHeldAtTheFirstAddress(t *testing.T) {
	r := newRig(t, 2)
	r.second(0, 8, rwx(0))
	r.wait(0, who{0, api.Kernel, -1})
	r.wait(1, who{0, api.Kernel, -1})
	if regs := r.steps(0, "sc x3, x1, x2", 8*api.Page, 5); regs.X[3] != 1 || r.load(0) != 0 {
		t.Errorf("sc of what is not held tells %d", regs.X[3])
	}
	r.steps(0, "lr x3, x1", 8*api.Page, 0)
	r.steps(1, "sd x2, 0(x1)", 8*api.Page+8, 0)
	if regs := r.steps(0, "sc x3, x1, x2", 8*api.Page, 5); regs.X[3] != 0 || r.load(0) != 5 {
		t.Errorf("sc of what is held tells %d", regs.X[3])
	}
	r.steps(0, "lr x3, x1", 8*api.Page, 0)
	r.steps(1, "sb x2, 7(x1)", 8*api.Page, 0)
	if regs := r.steps(0, "sc x3, x1, x2", 8*api.Page, 6); regs.X[3] != 1 || r.load(0) != 5 {
		t.Errorf("sc of what was let go tells %d", regs.X[3])
	}
}

// TestHeldAndContexts: Put and Take of the core let go; those of another, and those that are refused, do not.
func TestHeldAndContexts(t *testing.T) {
	r := holding(t)
	c, _ := r.m.Take(0)
	r.m.Put(0, c)
	r.isHeld(false, "Take and Put")

	r = holding(t)
	c, _ = r.m.Take(1)
	r.m.Put(1, c)
	r.m.Take(1)
	r.isHeld(true, "Take and Put of another core")

	r = holding(t)
	c, _ = r.m.Get(0)
	wantErrno(t, "Put", r.m.Put(0, c), api.ErrThere)
	c.File = nil
	wantErrno(t, "Put", r.m.Put(0, c), api.ErrArg)
	wantErrno(t, "Put", r.m.Put(-1, c), api.ErrArg)
	wantNoTake(t, r.m, 3, api.ErrArg)
	r.isHeld(true, "Put that is refused")

	r = holding(t)
	r.m.Flush(0, 0)
	r.m.Kept(0, 0)
	r.isHeld(true, "Flush")
}

// TestHeldAndOthers: what is no store of a core's lets nothing go.
func TestHeldAndOthers(t *testing.T) {
	r := holding(t)
	r.store(heldFrame(), 5)
	r.isHeld(true, "a store of no core's")

	r = holding(t)
	f := r.interrupted(0)
	f.Line(csr.Soft, false)
	r.isHeld(true, "an interrupt")

	for text, kind := range map[string]int{"sd x2, 1(x1)": hart.Trapped, "sd x2, 0(x1)": hart.Beyond, "amoadd x3, x1, x2": hart.Beyond, "sc x3, x1, x2": hart.Beyond} {
		r = holding(t)
		r.second(0, 10, only(frameOf(0, 8), true, false, false))
		r.refused(0, text, heldAt+2*api.Page, kind)
		r.isHeld(true, text+" that is refused")
		r = holding(t)
		r.second(0, 10, only(frameOf(0, 8), true, false, false))
		r.refused(1, text, heldAt+2*api.Page, kind)
		r.isHeld(true, text+" of another core that is refused")
	}
}

// refused lets a core try what comes to a trap, and goes on behind it.
func (r *rig) refused(core int, text string, x1 uint64, kind int) {
	r.t.Helper()
	r.steps(core, "fence", x1, 0)
	c, _ := r.m.Get(core)
	r.write(frameOf(0, code), c.Regs.Pc, text)
	if result, e := r.m.Step(core); result.Kind != kind || e != api.OK {
		r.t.Fatalf("core %d: %s comes to %+v, %d", core, text, result, int(e))
	}
}

// interrupted lets a core go into an interrupt.
func (r *rig) interrupted(core int) *csr.File {
	r.t.Helper()
	c, _ := r.m.Get(core)
	c.File.Set(csr.Vector, 0x20)
	c.File.Set(csr.Status, csr.On)
	c.File.Set(csr.Enable, 1<<csr.Soft)
	c.File.Line(csr.Soft, true)
	if result, e := r.m.Step(core); result.Trap.Cause != api.IrqSoft || e != api.OK {
		r.t.Fatalf("Step = %+v, %d", result, int(e))
	}
	return c.File
}
