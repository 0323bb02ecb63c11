package machine

import (
	"math"
	"slices"
	"testing"

	"palisade/api"
	"palisade/csr"
	"palisade/entry"
	"palisade/hart"
)

// everybody are those who may ask of a guest.
func everybody(guest int) []who {
	var all []who
	for _, mode := range []int{api.Kernel, api.User} {
		for _, first := range []int{-1, firstA, firstB} {
			all = append(all, who{guest, mode, first})
		}
	}
	return all
}

// page makes a program's page a guest's own page for who asks, wherever it goes from there.
func (r *rig) page(w who, page, to int) {
	r.t.Helper()
	if w.first < 0 {
		return
	}
	x := rwx(to)
	if w.mode != api.User {
		x = kernels(x)
	}
	r.first(w.guest, w.first, page, x)
}

// TestPrograms runs one as far as its call, on each core, with and without a first stage, in both modes.
func TestPrograms(t *testing.T) {
	program := []string{"addi x1, x0, 1032", "ld x2, -8(x1)", "addi x2, x2, 3", "sd x2, 0(x1)", "lw x3, 0(x1)", "beq x2, x0, 8", "sb x3, 7(x1)", "ecall"}
	for guest := range guests {
		for _, w := range everybody(guest) {
			for core := range api.MaxCores {
				r := newRig(t, api.MaxCores)
				r.page(w, 4, 4)
				c := w.context()
				for i, text := range program {
					r.write(frameOf(guest, w.codePage()), c.Regs.Pc+4*uint64(i), text)
				}
				r.m.Put(core, c)
				for i := range program[1:] {
					if result, e := r.m.Step(core); result != (hart.Result{}) || e != api.OK {
						t.Fatalf("%+v: the instruction %d comes to %+v, %d", w, i, result, int(e))
					}
				}
				at := uint64(frameOf(guest, 4)) * pageBytes
				sum := mark(frameOf(guest, 4)) + 3
				want := sum&(1<<56-1) | sum<<56
				if v := r.load(at + 8); v != want {
					t.Errorf("%+v: it stored %#x; want %#x", w, v, want)
				}
				c.Regs.X[1], c.Regs.X[2], c.Regs.X[3] = 1032, sum, sum&0xffffffff
				c.Regs.Pc += 4 * uint64(len(program)-1)
				wantContext(t, r.m, core, c)
				result, e := r.m.Step(core)
				if w.mode == api.Kernel {
					if result != (hart.Result{Kind: hart.Call, Trap: api.Trap{Cause: api.CauseKernel}}) || e != api.OK {
						t.Errorf("%+v: ecall comes to %+v, %d", w, result, int(e))
					}
				} else {
					if result != (hart.Result{Kind: hart.Trapped, Trap: api.Trap{Cause: api.CauseUser}}) || e != api.OK {
						t.Errorf("%+v: ecall comes to %+v, %d", w, result, int(e))
					}
					c.Regs.Pc, c.Regs.Mode = vector, api.Kernel
				}
				wantContext(t, r.m, core, c)
				wantTake(t, r.m, core, c)
			}
		}
	}
}

// TestSecondStageIsTheContexts: the same address of several guests is several frames.
func TestSecondStageIsTheContexts(t *testing.T) {
	r := newRig(t, 2)
	for range 2 {
		for core := range 2 {
			for guest := range guests {
				w := who{guest, api.Kernel, -1}
				r.loads(core, w, 5*pageBytes, mark(frameOf(guest, 5)))
				wantKept(t, r.m, core, guest, frameOf(guest, code), frameOf(guest, 5))
			}
		}
	}
	r.second(1, 7, rwx(spare+3))
	r.loads(0, who{1, api.Kernel, -1}, 7*pageBytes, mark(spare+3))
	r.stores(0, who{1, api.Kernel, -1}, 7*pageBytes+16, 99, (spare+3)*pageBytes+16)
}

func TestFileIsShared(t *testing.T) {
	r := newRig(t, 2)
	w := who{0, api.Kernel, -1}
	f := r.wait(0, w)
	other := r.wait(1, w)
	r.step(0, "addi x3, x0, 5")
	r.step(0, "csrrw x0, 7, x3")
	if v := f.Get(csr.Scratch); v != 5 {
		t.Errorf("Scratch is %d; want 5", v)
	}
	if v := other.Get(csr.Scratch); v != 0 {
		t.Errorf("of the other core Scratch is %d; want 0", v)
	}
	f.Set(csr.Vector, 0x40)
	f.Set(csr.Status, csr.On)
	f.Set(csr.Enable, 1<<csr.Soft)
	f.Line(csr.Soft, true)
	want := hart.Result{Kind: hart.Trapped, Trap: api.Trap{Cause: api.IrqSoft}}
	if result, e := r.m.Step(0); result != want || e != api.OK {
		t.Errorf("Step = %+v, %d; want %+v", result, int(e), want)
	}
	if c, _ := r.m.Get(0); c.Regs.Pc != 0x40 || c.File != f {
		t.Errorf("Pc is %#x; want 0x40", c.Regs.Pc)
	}
	if f.Get(csr.Epc) != 8 {
		t.Errorf("Epc is %d; want 8", f.Get(csr.Epc))
	}
}

// TestFileIsNoneAnyMore: whoever shares a file may make it one that no call made.
func TestFileIsNoneAnyMore(t *testing.T) {
	r := newRig(t, 1)
	f := r.wait(0, who{0, api.Kernel, -1})
	*f = csr.File{}
	was, _ := r.m.Get(0)
	wantNoStep(t, r.m, 0, api.ErrNil)
	wantContext(t, r.m, 0, was)
	wantKept(t, r.m, 0, 0)
}

// TestTimerIsTold: what hart.Step tells is told as it is.
func TestTimerIsTold(t *testing.T) {
	r := newRig(t, 1)
	w := who{0, api.Kernel, -1}
	if result, _ := r.do(0, w, "csrrw x0, 10, x1", 5, 0); result != (hart.Result{Timer: true}) {
		t.Errorf("Compare written comes to %+v", result)
	}
	if result, _ := r.do(0, w, "wfi", 0, 0); result != (hart.Result{Kind: hart.Waits}) {
		t.Errorf("wfi comes to %+v", result)
	}
	wantKept(t, r.m, 0, 0, frameOf(0, code))
}

// TestNoSuchFrame: the second stage may name a frame that the memory has not.
func TestNoSuchFrame(t *testing.T) {
	for _, frame := range []int{frames, frames + 1, api.MaxFrames - 1} {
		r := newRig(t, 1)
		w := who{0, api.Kernel, -1}
		r.second(0, 5, rwx(frame))
		for range 2 {
			r.traps(0, w, "ld x3, 0(x1)", 5*pageBytes, api.Trap{Cause: api.FaultLoad, Value: 5 * pageBytes})
			r.traps(0, w, "sb x2, 3(x1)", 5*pageBytes, api.Trap{Cause: api.FaultStore, Value: 5*pageBytes + 3})
			wantKept(t, r.m, 0, 0, frameOf(0, code), frame)
		}
		r.second(0, code, rwx(frame))
		wantFlush(t, r.m, 0, 0, 2)
		r.traps(0, w, "fence", 0, api.Trap{Cause: api.FaultFetch})
		wantKept(t, r.m, 0, 0, frame)
	}
}

// TestSecondStageRefuses: what it refuses is not kept, and changes nothing.
func TestSecondStageRefuses(t *testing.T) {
	w := who{1, api.Kernel, -1}
	at := 5 * pageBytes
	for _, c := range []struct {
		name               string
		x                  entry.Entry
		fetch, load, store bool
	}{
		{"none", entry.Entry{}, false, false, false},
		{"a page that is not User's", kernels(rwx(spare)), false, false, false},
		{"a page that is read", only(spare, true, false, false), false, true, false},
		{"a page that is read and written", only(spare, true, true, false), false, true, true},
		{"a page that is executed", only(spare, false, false, true), true, false, false},
		{"a page with all rights", rwx(spare), true, true, true},
	} {
		r := newRig(t, 1)
		r.write(spare, 0, "fence")
		r.second(1, 5, c.x)
		r.fetches(w, at, c.fetch, api.Trap{Cause: api.GuestFetch, Value: at, Guest: at}, c.name)
		if c.load {
			r.loads(0, w, at, r.load(spare*pageBytes))
		} else {
			r.traps(0, w, "ld x3, 0(x1)", at, api.Trap{Cause: api.GuestLoad, Value: at, Guest: at})
		}
		if c.store {
			r.stores(0, w, at+8, 5, spare*pageBytes+8)
		} else {
			r.traps(0, w, "sd x2, 0(x1)", at+8, api.Trap{Cause: api.GuestStore, Value: at + 8, Guest: at + 8})
		}
		if c.fetch || c.load {
			wantKept(t, r.m, 0, 1, frameOf(1, code), spare)
		} else {
			wantKept(t, r.m, 0, 1, frameOf(1, code))
		}
	}
}

// fetches asks whether an instruction at an address is done, of somebody who is there.
func (r *rig) fetches(w who, at uint64, done bool, want api.Trap, name string) {
	r.t.Helper()
	c := w.context()
	c.Regs.Pc = at
	r.m.Put(0, c)
	result, e := r.m.Step(0)
	if done {
		want = api.Trap{}
	}
	if done != (result.Kind == hart.Done) || result.Trap != want || e != api.OK {
		r.t.Errorf("%s: a fetch from %#x comes to %+v, %d; want %+v", name, at, result, int(e), want)
	}
	r.m.Take(0)
}

// TestFirstStageRefuses: its faults are gone into, and not kept.
func TestFirstStageRefuses(t *testing.T) {
	r := newRig(t, 1)
	at := 6 * pageBytes
	kernel, user := who{0, api.Kernel, firstA}, who{0, api.User, firstA}
	r.traps(0, kernel, "ld x3, 0(x1)", at, api.Trap{Cause: api.FaultLoad, Value: at})
	r.first(0, firstA, 6, rwx(9))
	r.traps(0, kernel, "ld x3, 0(x1)", at, api.Trap{Cause: api.FaultLoad, Value: at})
	r.loads(0, user, at, mark(frameOf(0, 9)))
	r.first(0, firstA, 6, kernels(only(9, true, false, false)))
	r.loads(0, kernel, at, mark(frameOf(0, 9)))
	r.traps(0, kernel, "sd x2, 0(x1)", at, api.Trap{Cause: api.FaultStore, Value: at})
	r.second(0, 10, entry.Entry{})
	r.first(0, firstA, 7, rwx(10))
	r.traps(0, user, "ld x3, 0(x1)", at+pageBytes+8, api.Trap{Cause: api.GuestLoad, Value: at + pageBytes + 8, Guest: 10*pageBytes + 8})
	r.second(0, firstA, entry.Entry{})
	r.traps(0, user, "ld x3, 0(x1)", at+2*pageBytes, api.Trap{Cause: api.GuestLoad, Value: at + 2*pageBytes, Guest: firstA * pageBytes})
	wantKept(t, r.m, 0, 0, frameOf(0, code), frameOf(0, userCode), frameOf(0, 9))
}

// TestTooManyBits: such addresses are refused, also those whose lower bits are a page that is kept.
func TestTooManyBits(t *testing.T) {
	for _, first := range []int{-1, firstA} {
		r := newRig(t, 1)
		w := who{0, api.Kernel, first}
		r.page(w, 5, 5)
		r.loads(0, w, 5*pageBytes, mark(frameOf(0, 5)))
		for _, high := range []uint64{1 << 18, 1 << 19, 1 << 20, 1 << 27, 1 << 28, 1 << 57, 1 << 58, 1 << 63, 1<<64 - 1<<18} {
			at := high + 5*pageBytes
			r.traps(0, w, "ld x3, 0(x1)", at, api.Trap{Cause: api.FaultLoad, Value: at})
			r.traps(0, w, "sd x2, 0(x1)", at, api.Trap{Cause: api.FaultStore, Value: at})
			r.fetches(w, at, false, api.Trap{Cause: api.FaultFetch, Value: at}, "too many bits")
		}
		wantKept(t, r.m, 0, 0, frameOf(0, code), frameOf(0, 5))
		wantFlush(t, r.m, 0, 0, 2)
	}
}

// TestLastPage: the last page of all addresses has a key of its own, in each mode and with each root.
func TestLastPage(t *testing.T) {
	r := newRig(t, 1)
	last := uint64(1)<<18 - pageBytes
	r.put(rootOf(0), 31, entry.Entry{Valid: true, Frame: spare})
	r.put(spare, 31, rwx(spare+1))
	for _, first := range []int{firstA, firstB} {
		r.put(frameOf(0, first), 31, entry.Entry{Valid: true, Frame: first - 20})
		r.put(frameOf(0, first-20), 31, rwx(first-30))
	}
	for range 2 {
		r.loads(0, who{0, api.User, -1}, last, mark(spare+1))
		r.loads(0, who{0, api.User, firstA}, last, mark(frameOf(0, firstA-30)))
		r.loads(0, who{0, api.User, firstB}, last, mark(frameOf(0, firstB-30)))
		r.loads(0, who{0, api.Kernel, -1}, last, mark(spare+1))
		r.loads(0, who{0, api.Kernel, -1}, 0, r.load(uint64(frameOf(0, code))*pageBytes))
	}
	wantFlush(t, r.m, 0, 0, 8)
}

// TestKeptIsUsed: until it is forgotten, whatever becomes of the tables.
func TestKeptIsUsed(t *testing.T) {
	const at = 5 * pageBytes
	for _, w := range everybody(1) {
		r := newRig(t, 2)
		r.page(w, 5, 5)
		old, now := frameOf(1, 5), spare+7
		r.loads(0, w, at, mark(old))
		r.second(1, 5, rwx(now))
		for range 3 {
			r.loads(0, w, at, mark(old))
			r.stores(0, w, at+8, 1234, uint64(old)*pageBytes+8)
		}
		r.second(1, 5, entry.Entry{})
		r.loads(0, w, at, mark(old))
		wantKept(t, r.m, 0, 1, frameOf(1, w.codePage()), old)
		r.traps(1, w, "ld x3, 0(x1)", at, api.Trap{Cause: api.GuestLoad, Value: at, Guest: at})
		r.second(1, 5, rwx(now))
		r.loads(0, w, at, mark(old))
		r.loads(1, w, at, mark(now))
		wantFlush(t, r.m, 0, 0, 0)
		r.loads(0, w, at, mark(old))
		wantFlush(t, r.m, 0, 1, 2)
		wantKept(t, r.m, 0, 1)
		wantKept(t, r.m, 1, 1, frameOf(1, w.codePage()), now)
		r.loads(0, w, at, mark(now))
		if t.Failed() {
			t.Fatalf("%+v", w)
		}
	}
}

// TestFirstStageIsKept: what a guest changes in its own tables counts behind a Fence alone, too.
func TestFirstStageIsKept(t *testing.T) {
	const at = 5 * pageBytes
	r := newRig(t, 1)
	w := who{1, api.Kernel, firstA}
	r.page(w, 5, 5)
	r.loads(0, w, at, mark(frameOf(1, 5)))
	r.page(w, 5, 9)
	r.loads(0, w, at, mark(frameOf(1, 5)))
	r.first(1, firstA, 5, entry.Entry{})
	r.loads(0, w, at, mark(frameOf(1, 5)))
	r.do(0, w, "sfence x0", 0, 0)
	r.traps(0, w, "ld x3, 0(x1)", at, api.Trap{Cause: api.FaultLoad, Value: at})
	r.page(w, 5, 9)
	r.loads(0, w, at, mark(frameOf(1, 9)))
}

// TestFetchIsKept: a program goes on where it was, though the tables have its page elsewhere.
func TestFetchIsKept(t *testing.T) {
	r := newRig(t, 1)
	w := who{0, api.Kernel, -1}
	r.wait(0, w)
	r.step(0, "addi x3, x0, 1")
	r.second(0, code, rwx(spare))
	r.write(spare, 4, "addi x3, x0, 2")
	r.write(spare, 8, "addi x3, x0, 3")
	r.step(0, "addi x3, x3, 10")
	if c, _ := r.m.Get(0); c.Regs.X[3] != 11 {
		t.Errorf("x3 is %d; want 11", c.Regs.X[3])
	}
	wantKept(t, r.m, 0, 0, frameOf(0, code))
	wantFlush(t, r.m, 0, 0, 1)
	r.m.Step(0)
	if c, _ := r.m.Get(0); c.Regs.X[3] != 3 {
		t.Errorf("behind Flush x3 is %d; want 3", c.Regs.X[3])
	}
	wantKept(t, r.m, 0, 0, spare)
}

// TestFence: an instruction that tells it forgets the translations of its guest on its core, and no others.
func TestFence(t *testing.T) {
	const at = 5 * pageBytes
	for _, c := range []struct {
		text   string
		forget bool
	}{
		{"sfence x0", true}, {"sfence x1", true}, {"csrrw x0, 8, x1", true}, {"csrrw x3, 8, x0", true}, {"csrrs x3, 8, x1", true}, {"csrrc x3, 8, x1", true},
		{"csrrs x3, 8, x0", false}, {"csrrc x3, 8, x0", false}, {"csrrw x0, 7, x1", false}, {"csrrw x0, 10, x1", false}, {"fence", false}, {"ecall", false}, {"wfi", false},
	} {
		r := newRig(t, 2)
		w, other := who{1, api.Kernel, -1}, who{2, api.Kernel, -1}
		for core := range 2 {
			r.loads(core, w, at, mark(frameOf(1, 5)))
			r.loads(core, other, at, mark(frameOf(2, 5)))
		}
		r.second(1, 5, rwx(spare))
		r.second(2, 5, rwx(spare+1))
		result, _ := r.do(0, w, c.text, 0, 0)
		if result.Fence != c.forget {
			t.Errorf("%s: Fence is %v", c.text, result.Fence)
		}
		if c.forget {
			wantKept(t, r.m, 0, 1)
			r.loads(0, w, at, mark(spare))
		} else {
			wantKept(t, r.m, 0, 1, frameOf(1, code), frameOf(1, 5))
			r.loads(0, w, at, mark(frameOf(1, 5)))
		}
		r.loads(0, other, at, mark(frameOf(2, 5)))
		r.loads(1, w, at, mark(frameOf(1, 5)))
		r.loads(1, other, at, mark(frameOf(2, 5)))
		if t.Failed() {
			t.Fatal(c.text)
		}
	}
}

// TestFenceFromUser: it is no instruction there, and forgets nothing.
func TestFenceFromUser(t *testing.T) {
	r := newRig(t, 1)
	w := who{0, api.User, -1}
	r.loads(0, w, 5*pageBytes, mark(frameOf(0, 5)))
	r.traps(0, w, "sfence x0", 0, api.Trap{Cause: api.CauseIllegal, Value: uint64(r.word("sfence x0"))})
	wantKept(t, r.m, 0, 0, frameOf(0, userCode), frameOf(0, 5))
}

// TestKeptIsWhose: a translation is used for nobody but the guest, the first stage's root and the mode that it was found for.
func TestKeptIsWhose(t *testing.T) {
	const at = 5 * pageBytes
	var all []who
	for guest := range guests {
		all = append(all, everybody(guest)...)
	}
	for _, w := range all {
		for _, other := range all {
			r := newRig(t, 1)
			r.page(w, 5, 5)
			r.loads(0, w, at, mark(frameOf(w.guest, 5)))
			r.page(other, 5, 5)
			r.second(other.guest, 5, rwx(spare))
			want := mark(spare)
			if other == w {
				want = mark(frameOf(w.guest, 5))
			}
			r.loads(0, other, at, want)
			if t.Failed() {
				t.Fatalf("kept for %+v, used for %+v", w, other)
			}
		}
	}
}

// TestKeptOfAGuestAlone: the key has the first stage's root, not the second one's.
func TestKeptOfAGuestAlone(t *testing.T) {
	r := newRig(t, 1)
	w := who{1, api.Kernel, -1}
	r.loads(0, w, 5*pageBytes, mark(frameOf(1, 5)))
	r.write(frameOf(1, code), 0, "ld x3, 0(x1)")
	c := w.context()
	c.Root, c.Regs.X[1] = rootOf(2), 5*pageBytes
	r.m.Put(0, c)
	if result, e := r.m.Step(0); result.Kind != hart.Done || e != api.OK {
		t.Errorf("Step = %+v, %d", result, int(e))
	}
	if c, _ := r.m.Take(0); c.Regs.X[3] != mark(frameOf(1, 5)) {
		t.Errorf("x3 is %#x", c.Regs.X[3])
	}
}

// TestGreatRoots: roots at both ends have keys of their own, also where the tables can't be read.
func TestGreatRoots(t *testing.T) {
	r := newRig(t, 1)
	great := uint64(1<<16-1) * pageBytes
	r.fetches(who{0, api.Kernel, 0}, 4, false, api.Trap{Cause: api.FaultFetch, Value: 4}, "the root 0, without tables")
	r.fetches(who{0, api.Kernel, 1<<16 - 1}, 4, false, api.Trap{Cause: api.GuestFetch, Value: 4, Guest: great}, "the greatest root")
	wantKept(t, r.m, 0, 0)
	r.put(rootOf(0), 0, entry.Entry{Valid: true, Frame: spare})
	r.put(spare, 0, rwx(spare+1))
	r.put(spare, 1, rwx(spare+2))
	r.put(spare, 2, rwx(spare+3))
	r.put(spare+1, 0, entry.Entry{Valid: true, Frame: 1})
	r.put(spare+2, 0, kernels(rwx(2)))
	r.write(spare+3, 4, "fence")
	w := who{0, api.Kernel, 0}
	r.fetches(w, 4, true, api.Trap{}, "the root 0")
	wantKept(t, r.m, 0, 0, spare+3)
	r.put(spare, 0, entry.Entry{})
	r.fetches(w, 4, true, api.Trap{}, "the root 0, kept")
	r.fetches(who{0, api.Kernel, -1}, 4, false, api.Trap{Cause: api.GuestFetch, Value: 4, Guest: 4}, "no root")
}

// TestPagesHaveKeysOfTheirOwn: of any two pages, asked for in any two modes.
func TestPagesHaveKeysOfTheirOwn(t *testing.T) {
	type asks struct {
		w    who
		page int
	}
	var all []asks
	for _, mode := range []int{api.Kernel, api.User} {
		for _, page := range []int{2, 3, 4, 5, 8, 9, 16, 17, 31, 32, 33, 34, 36, 62, 63} {
			all = append(all, asks{who{0, mode, -1}, page})
		}
	}
	r := newRig(t, 1)
	for _, a := range all {
		for _, b := range all {
			r.loads(0, a.w, uint64(a.page)*pageBytes+8, r.load(uint64(frameOf(0, a.page))*pageBytes+8))
			r.loads(0, a.w, uint64(a.page)*pageBytes, r.load(uint64(frameOf(0, a.page))*pageBytes))
			r.loads(0, b.w, uint64(b.page)*pageBytes, r.load(uint64(frameOf(0, b.page))*pageBytes))
			if t.Failed() {
				t.Fatalf("%+v ahead of %+v", a, b)
			}
			r.m.Flush(0, 0)
		}
	}
}

// TestRootsAreFarApart: the greatest pages of a root have other keys than the least ones of the next.
func TestRootsAreFarApart(t *testing.T) {
	r := newRig(t, 1)
	for upper := range api.Slots {
		// Without a first stage such pages lie in the frame spare, with the root 0 in the guest's page 21.
		r.put(rootOf(0), upper, entry.Entry{Valid: true, Frame: spare + 1})
		r.put(frameOf(0, 0), upper, entry.Entry{Valid: true, Frame: 20})
	}
	for place := range api.Slots {
		r.put(spare+1, place, rwx(spare))
		r.put(frameOf(0, 20), place, kernels(rwx(21)))
	}
	r.put(spare+1, 0, rwx(frameOf(0, 0)))
	r.put(spare+1, 20, rwx(frameOf(0, 20)))
	r.put(spare+1, 21, rwx(frameOf(0, 21)))
	r.write(spare, 4, "fence")
	r.write(frameOf(0, 21), 4, "fence")
	for upper := range api.Slots {
		for other := range api.Slots {
			r.fetches(who{0, api.Kernel, -1}, uint64(upper*api.Slots+5)*pageBytes+4, true, api.Trap{}, "no root")
			wantKept(t, r.m, 0, 0, spare)
			r.fetches(who{0, api.Kernel, 0}, uint64(other*api.Slots+5)*pageBytes+4, true, api.Trap{}, "the root 0")
			wantKept(t, r.m, 0, 0, frameOf(0, 21), spare)
			wantFlush(t, r.m, 0, 0, 2)
		}
	}
}

// TestMoreThanSixteen: the oldest goes, whosever it is, and however often it was used.
func TestMoreThanSixteen(t *testing.T) {
	r := newRig(t, 1)
	w := who{0, api.Kernel, -1}
	at := func(page int) uint64 { return uint64(page) * pageBytes }
	var want []int
	for page := 2; page < 17; page++ {
		r.loads(0, w, at(page), mark(frameOf(0, page)))
		want = append(want, frameOf(0, page))
	}
	wantKept(t, r.m, 0, 0, append([]int{frameOf(0, code)}, want...)...)
	for page := 2; page < 40; page++ {
		r.second(0, page, rwx(spare))
	}
	for page := 2; page < 17; page++ {
		r.loads(0, w, at(page), mark(frameOf(0, page)))
	}
	// The code's translation is the oldest: it goes, and comes as the newest in the place of page 2's.
	r.loads(0, w, at(17), mark(spare))
	wantKept(t, r.m, 0, 0, append(slices.Clone(want), spare)...)
	r.loads(0, w, at(3), mark(frameOf(0, 3)))
	wantKept(t, r.m, 0, 0, append(append([]int{frameOf(0, code)}, want[1:]...), spare)...)
	r.loads(0, w, at(2), mark(spare))
	r.loads(0, w, at(3), mark(spare))
	r.loads(0, w, at(16), mark(frameOf(0, 16)))
	wantKept(t, r.m, 0, 0, append(append([]int{frameOf(0, code)}, want[3:]...), spare)...)
	wantFlush(t, r.m, 0, 0, 16)
	wantFlush(t, r.m, 0, 0, 0)
	wantKept(t, r.m, 0, 0)
}

// TestSixteenOfAllGuests: the room is the core's, not a guest's.
func TestSixteenOfAllGuests(t *testing.T) {
	r := newRig(t, 2)
	a, b := who{0, api.Kernel, -1}, who{1, api.Kernel, -1}
	for page := 2; page < 9; page++ {
		r.loads(0, a, uint64(page)*pageBytes, mark(frameOf(0, page)))
		r.loads(1, a, uint64(page)*pageBytes, mark(frameOf(0, page)))
	}
	for page := 2; page < 9; page++ {
		r.loads(0, b, uint64(page)*pageBytes, mark(frameOf(1, page)))
	}
	if n, k := len(r.m.Kept(0, 0)), len(r.m.Kept(0, 1)); n != 8 || k != 8 {
		t.Errorf("%d and %d frames are kept; want 8 and 8", n, k)
	}
	r.loads(0, b, 9*pageBytes, mark(frameOf(1, 9)))
	r.loads(0, b, 10*pageBytes, mark(frameOf(1, 10)))
	if n, k := len(r.m.Kept(0, 0)), len(r.m.Kept(0, 1)); n != 6 || k != 10 {
		t.Errorf("%d and %d frames are kept; want 6 and 10", n, k)
	}
	wantFlush(t, r.m, 0, 1, 10)
	wantFlush(t, r.m, 0, 1, 0)
	wantFlush(t, r.m, 0, 0, 6)
	wantFlush(t, r.m, 1, 1, 0)
	wantFlush(t, r.m, 1, 0, 8)
}

// TestKeptDoesNotAllow: then the tables are asked, and what is found comes in the place of what was kept.
func TestKeptDoesNotAllow(t *testing.T) {
	const at = 5 * pageBytes
	r := newRig(t, 1)
	w := who{0, api.Kernel, -1}
	old := frameOf(0, 5)
	r.second(0, 5, only(old, true, false, false))
	r.loads(0, w, at, mark(old))
	r.traps(0, w, "sd x2, 0(x1)", at, api.Trap{Cause: api.GuestStore, Value: at, Guest: at})
	wantKept(t, r.m, 0, 0, frameOf(0, code), old)
	r.second(0, 5, entry.Entry{})
	r.traps(0, w, "sd x2, 0(x1)", at, api.Trap{Cause: api.GuestStore, Value: at, Guest: at})
	r.loads(0, w, at, mark(old))
	r.second(0, 5, only(spare, true, true, false))
	r.loads(0, w, at, mark(old))
	r.stores(0, w, at+8, 6, spare*pageBytes+8)
	wantKept(t, r.m, 0, 0, frameOf(0, code), spare)
	r.loads(0, w, at, mark(spare))
	r.second(0, 5, only(spare+1, false, false, true))
	r.loads(0, w, at, mark(spare))
	r.write(spare+1, 0, "fence")
	r.fetches(w, at, true, api.Trap{}, "a page that is executed now")
	wantKept(t, r.m, 0, 0, frameOf(0, code), spare+1)
	r.traps(0, w, "ld x3, 0(x1)", at, api.Trap{Cause: api.GuestLoad, Value: at, Guest: at})
	wantFlush(t, r.m, 0, 0, 2)
}

// TestKeptAgainIsAsOld: what comes in the place of a translation has its age.
func TestKeptAgainIsAsOld(t *testing.T) {
	r := newRig(t, 1)
	w := who{0, api.Kernel, -1}
	r.second(0, 2, only(frameOf(0, 2), true, false, false))
	for page := 2; page < 17; page++ {
		r.loads(0, w, uint64(page)*pageBytes, mark(frameOf(0, page)))
	}
	r.second(0, 2, rwx(spare))
	r.stores(0, w, 2*pageBytes+8, 3, spare*pageBytes+8)
	if l := r.m.Kept(0, 0); len(l) != 16 || !slices.Contains(l, spare) {
		t.Errorf("Kept = %v", l)
	}
	r.loads(0, w, 17*pageBytes, mark(frameOf(0, 17)))
	r.loads(0, w, 16*pageBytes, mark(frameOf(0, 16)))
	if l := r.m.Kept(0, 0); len(l) != 16 || slices.Contains(l, spare) {
		t.Errorf("Kept = %v", l)
	}
}

// TestKeptEachOnce: several translations of one frame name it once; Flush counts them all.
func TestKeptEachOnce(t *testing.T) {
	r := newRig(t, 1)
	w := who{0, api.Kernel, -1}
	for _, page := range []int{9, 5, 7, 6, 8} {
		r.second(0, page, rwx(spare+9-page%2))
		r.loads(0, w, uint64(page)*pageBytes, mark(spare+9-page%2))
	}
	r.second(0, 3, rwx(40))
	r.loads(0, w, 3*pageBytes, mark(40))
	wantKept(t, r.m, 0, 0, frameOf(0, code), 40, spare+8, spare+9)
	wantKept(t, r.m, 0, 0, frameOf(0, code), 40, spare+8, spare+9)
	wantFlush(t, r.m, 0, 0, 7)
}

// TestKeptIsNewMemory: who changes what was told changes nothing.
func TestKeptIsNewMemory(t *testing.T) {
	r := newRig(t, 1)
	w := who{0, api.Kernel, -1}
	r.loads(0, w, 5*pageBytes, mark(frameOf(0, 5)))
	r.loads(0, w, 6*pageBytes, mark(frameOf(0, 6)))
	l := r.m.Kept(0, 0)
	for i := range l[:cap(l)] {
		l[:cap(l)][i] = 7
	}
	wantKept(t, r.m, 0, 0, frameOf(0, code), frameOf(0, 5), frameOf(0, 6))
	r.loads(0, w, 5*pageBytes, mark(frameOf(0, 5)))
}

// TestGreatGuests: guests of the whole range have translations of their own.
func TestGreatGuests(t *testing.T) {
	r := newRig(t, 1)
	numbers := []int{0, 1, 2, 15, 16, 17, 1 << 20, 1 << 44, 1 << 62, math.MaxInt - 1, math.MaxInt}
	for _, guest := range numbers {
		c := who{0, api.Kernel, -1}.context()
		c.Guest = guest
		r.write(frameOf(0, code), 0, "fence")
		r.m.Put(0, c)
		r.m.Step(0)
		r.m.Take(0)
	}
	for _, guest := range numbers {
		wantKept(t, r.m, 0, guest, frameOf(0, code))
		wantFlush(t, r.m, 0, guest, 1)
		wantKept(t, r.m, 0, guest)
	}
}

// TestAnyMode: a mode that is neither has Kernel's translations, and nothing breaks.
func TestAnyMode(t *testing.T) {
	r := newRig(t, 1)
	for _, mode := range edgeInts {
		c := who{0, api.Kernel, -1}.context()
		c.Regs.Mode = mode
		r.write(frameOf(0, code), 0, "addi x3, x0, 5")
		r.m.Put(0, c)
		if result, e := r.m.Step(0); result != (hart.Result{}) || e != api.OK {
			t.Errorf("mode %d: Step = %+v, %d", mode, result, int(e))
		}
		c.Regs.X[3], c.Regs.Pc = 5, 4
		wantTake(t, r.m, 0, c)
	}
	wantFlush(t, r.m, 0, 0, 2)
}
