package machine

import (
	"testing"

	"palisade/api"
	"palisade/asm"
	"palisade/csr"
	"palisade/entry"
	"palisade/hart"
)

// How the tests lay a machine's memory. Of the guest g: the second stage's root lies in the frame 1 + 4 g, its tables behind it,
// and its page p in the frame 32 + 64 g + p. The frames from spare on are nobody's at first.
// Of its pages, code is what the Kernel fetches, and userCode what User does; first stages have their root and lower table in two pages each.
const (
	frames   = 256
	guests   = 3
	pages    = 64
	spare    = 32 + 64*guests
	code     = 0
	userCode = 1
	firstA   = 60
	firstB   = 62
	vector   = 0x80
)

func rootOf(guest int) int        { return 1 + 4*guest }
func frameOf(guest, page int) int { return 32 + 64*guest + page }

// mark is what stands at the beginning of a frame before anything is stored there.
func mark(frame int) uint64 { return 0x1111_0000_0000_0000 + uint64(frame) }

// rwx is a page of User's that allows everything.
func rwx(frame int) entry.Entry {
	return entry.Entry{Valid: true, Read: true, Write: true, Exec: true, User: true, Frame: frame}
}

func kernels(x entry.Entry) entry.Entry {
	x.User = false
	return x
}

// only is a page of User's that allows some accesses.
func only(frame int, read, write, exec bool) entry.Entry {
	return entry.Entry{Valid: true, Read: read, Write: write, Exec: exec, User: true, Frame: frame}
}

type rig struct {
	t *testing.T
	m *Machine
}

// newRig makes a machine whose guests have all their pages.
func newRig(t *testing.T, cores int) *rig {
	t.Helper()
	r := &rig{t: t, m: newMachine(t, cores, frames)}
	for frame := 32; frame < frames; frame++ {
		r.store(uint64(frame)*api.Page, mark(frame))
	}
	for guest := range guests {
		root := rootOf(guest)
		for upper := range pages / api.Slots {
			r.put(root, upper, entry.Entry{Valid: true, Frame: root + 1 + upper})
		}
		for page := range pages {
			r.second(guest, page, rwx(frameOf(guest, page)))
		}
		for _, first := range []int{firstA, firstB} {
			r.put(frameOf(guest, first), 0, entry.Entry{Valid: true, Frame: first + 1})
			r.first(guest, first, code, kernels(rwx(code)))
			r.first(guest, first, userCode, rwx(userCode))
		}
	}
	return r
}

func (r *rig) store(at, v uint64) {
	r.t.Helper()
	if e := r.m.Memory().Store(at, 8, v); e != api.OK {
		r.t.Fatal(at, e)
	}
}

func (r *rig) load(at uint64) uint64 {
	r.t.Helper()
	v, e := r.m.Memory().Load(at, 8)
	if e != api.OK {
		r.t.Fatal(at, e)
	}
	return v
}

// put lays an entry into a frame.
func (r *rig) put(frame, place int, x entry.Entry) {
	r.t.Helper()
	v, e := entry.Pack(x)
	if e != api.OK {
		r.t.Fatal(x, e)
	}
	r.store(uint64(frame*api.Page+8*place), v)
}

// second lays what a guest's page is.
func (r *rig) second(guest, page int, x entry.Entry) {
	r.t.Helper()
	r.put(rootOf(guest)+1+page/api.Slots, page%api.Slots, x)
}

// first lays what a program's page is in one of the guest's first stages.
func (r *rig) first(guest, root, page int, x entry.Entry) {
	r.t.Helper()
	r.put(frameOf(guest, root+1), page, x)
}

func (r *rig) word(text string) uint32 {
	r.t.Helper()
	words, _, e := asm.Assemble(text, 0)
	if e != api.OK || len(words) != 1 {
		r.t.Fatal(text, words, e)
	}
	return words[0]
}

// write lays an instruction into a frame; no core stores it.
func (r *rig) write(frame int, at uint64, text string) {
	r.t.Helper()
	if e := r.m.Memory().Store(uint64(frame)*api.Page+at%api.Page, 4, uint64(r.word(text))); e != api.OK {
		r.t.Fatal(text, e)
	}
}

// who asks: a guest, in a mode, with a first stage of its own (-1: none).
type who struct{ guest, mode, first int }

func (w who) context() Context {
	c := Context{Guest: w.guest, Root: rootOf(w.guest), File: csr.New(0)}
	c.File.Set(csr.Vector, vector)
	if w.first >= 0 {
		c.File.Set(csr.Satp, csr.Paged|uint64(w.first))
	}
	c.Regs.Mode = w.mode
	if w.mode == api.User {
		c.Regs.Pc = userCode * api.Page
	}
	return c
}

// codePage tells the page from which it fetches.
func (w who) codePage() int {
	if w.mode == api.User {
		return userCode
	}
	return code
}

// do lets a core do one instruction for somebody, with x1 and x2, and takes the context away again. What is kept stays.
func (r *rig) do(core int, w who, text string, x1, x2 uint64) (hart.Result, api.Regs) {
	r.t.Helper()
	c := w.context()
	c.Regs.X[1], c.Regs.X[2] = x1, x2
	r.write(frameOf(w.guest, w.codePage()), c.Regs.Pc, text)
	if e := r.m.Put(core, c); e != api.OK {
		r.t.Fatal("Put:", e)
	}
	result, e := r.m.Step(core)
	if e != api.OK {
		r.t.Fatal("Step:", e)
	}
	c, e = r.m.Take(core)
	if e != api.OK {
		r.t.Fatal("Take:", e)
	}
	return result, c.Regs
}

// loads asks what somebody loads from an address.
func (r *rig) loads(core int, w who, at, want uint64) {
	r.t.Helper()
	result, regs := r.do(core, w, "ld x3, 0(x1)", at, 0)
	if result != (hart.Result{Kind: hart.Done}) || regs.X[3] != want {
		r.t.Errorf("core %d, %+v: a load from %#x comes to %+v and %#x; want %#x", core, w, at, result, regs.X[3], want)
	}
}

// stores asks where a store of somebody's lands.
func (r *rig) stores(core int, w who, at, v, lands uint64) {
	r.t.Helper()
	if result, _ := r.do(core, w, "sd x2, 0(x1)", at, v); result != (hart.Result{Kind: hart.Done}) {
		r.t.Errorf("core %d, %+v: a store to %#x comes to %+v", core, w, at, result)
	}
	if got := r.load(lands); got != v {
		r.t.Errorf("core %d, %+v: a store of %#x to %#x: at %#x stands %#x", core, w, v, at, lands, got)
	}
}

// traps asks which trap an instruction of somebody's comes to; beyond: the second stage's.
func (r *rig) traps(core int, w who, text string, x1 uint64, want api.Trap) {
	r.t.Helper()
	result, regs := r.do(core, w, text, x1, 0)
	kind, pc, mode := hart.Trapped, uint64(vector), api.Kernel
	if want.Cause >= api.GuestFetch {
		kind, pc, mode = hart.Beyond, w.context().Regs.Pc, w.mode
	}
	if result != (hart.Result{Kind: kind, Trap: want}) || regs.Pc != pc || regs.Mode != mode {
		r.t.Errorf("core %d, %+v: %s of %#x comes to %+v, Pc %#x, mode %d; want %+v, %#x, %d", core, w, text, x1, result, regs.Pc, regs.Mode, want, pc, mode)
	}
}

// wait puts somebody onto a core, about to step where codePage is.
func (r *rig) wait(core int, w who) *csr.File {
	r.t.Helper()
	c := w.context()
	if e := r.m.Put(core, c); e != api.OK {
		r.t.Fatal("Put:", e)
	}
	return c.File
}

// steps lets a core whose context stays do one instruction, at its Pc in the code page of the guest's, with x1 and x2.
func (r *rig) steps(core int, text string, x1, x2 uint64) api.Regs {
	r.t.Helper()
	// Scratch brings numbers into registers without another load or store, so that what is held stays.
	for n, v := range map[string]uint64{"x1": x1, "x2": x2} {
		c, _ := r.m.Get(core)
		c.File.Set(csr.Scratch, v)
		r.step(core, "csrrs "+n+", 7, x0")
	}
	r.step(core, text)
	c, _ := r.m.Get(core)
	done := c.Regs
	// The page has room for some instructions only.
	if done.Pc%api.Page > 0x60 {
		r.step(core, "jal x0, -16")
	}
	return done
}

func (r *rig) step(core int, text string) {
	r.t.Helper()
	c, ok := r.m.Get(core)
	if !ok {
		r.t.Fatal("no context")
	}
	r.write(frameOf(c.Guest, code), c.Regs.Pc, text)
	if result, e := r.m.Step(core); result.Kind != hart.Done || e != api.OK {
		r.t.Fatalf("core %d: %s comes to %+v, %d", core, text, result, int(e))
	}
}

const pageBytes = uint64(api.Page)
