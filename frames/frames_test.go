package frames

import (
	"math"
	"slices"
	"testing"

	"palisade/api"
)

// edgeInts are numbers at both ends of int, and around the edges within.
var edgeInts = []int{math.MinInt, math.MinInt + 1, -1 << 32, math.MinInt32 - 1, math.MinInt32, -17, -16, -2, -1, 0, 1, 2, 3, 4, 5, 7, 8, 15, 16, 17, 18, 255, 256, 1<<16 - 1, 1 << 16, 1<<16 + 1, math.MaxInt32, math.MaxInt32 + 1, 1 << 32, 1<<32 + 1, 1 << 62, math.MaxInt - 1, math.MaxInt}

// noOwners are numbers that are no owner's.
var noOwners = []int{math.MinInt, math.MinInt + 1, -1 << 32, math.MinInt32, -2, -1, api.MaxGuests + 1, api.MaxGuests + 2, 256, math.MaxInt32, 1 << 32, 1<<32 + 1, math.MaxInt - 1, math.MaxInt}

// noFrames tells numbers of which so many frames have none.
func noFrames(frames int) []int {
	return []int{math.MinInt, math.MinInt + 1, -1 << 32, math.MinInt32, -2, -1, frames, frames + 1, 1<<32 + 1, math.MaxInt - 1, math.MaxInt}
}

// made is one of so many frames, the first ones of which are the hypervisor's.
func made(t *testing.T, frames, first int) *Frames {
	t.Helper()
	f, e := New(frames, first)
	if f == nil || e != api.OK {
		t.Fatalf("New(%d, %d) = %v, %d", frames, first, f, int(e))
	}
	return f
}

// mixed is one of eight frames: 0 and 1 are the first ones, 2 is the guest 1's once, 3 the guest 1's three times, 4 the guest 2's, 5 the hypervisor's by Alloc, 6 and 7 nobody's.
func mixed(t *testing.T) *Frames {
	t.Helper()
	f := made(t, 8, 2)
	wantAlloc(t, f, 1, 2)
	wantAlloc(t, f, 1, 3)
	wantErrno(t, "Hold", f.Hold(3, 1), api.OK)
	wantErrno(t, "Hold", f.Hold(3, 1), api.OK)
	wantAlloc(t, f, 2, 4)
	wantAlloc(t, f, Hypervisor, 5)
	return f
}

func wantErrno(t *testing.T, what string, e, want api.Errno) {
	t.Helper()
	if e != want {
		t.Errorf("%s = %d; want %d", what, int(e), int(want))
	}
}

func wantAlloc(t *testing.T, f *Frames, owner, frame int) {
	t.Helper()
	if n, e := f.Alloc(owner); n != frame || e != api.OK {
		t.Errorf("Alloc(%d) = %d, %d; want %d, 0", owner, n, int(e), frame)
	}
}

func wantNoAlloc(t *testing.T, f *Frames, owner int, want api.Errno) {
	t.Helper()
	if n, e := f.Alloc(owner); n != 0 || e != want {
		t.Errorf("Alloc(%d) = %d, %d; want 0, %d", owner, n, int(e), int(want))
	}
}

func wantFree(t *testing.T, f *Frames, frame, owner int, last bool) {
	t.Helper()
	if ok, e := f.Free(frame, owner); ok != last || e != api.OK {
		t.Errorf("Free(%d, %d) = %v, %d; want %v, 0", frame, owner, ok, int(e), last)
	}
}

func wantNoFree(t *testing.T, f *Frames, frame, owner int, want api.Errno) {
	t.Helper()
	if ok, e := f.Free(frame, owner); ok || e != want {
		t.Errorf("Free(%d, %d) = %v, %d; want false, %d", frame, owner, ok, int(e), int(want))
	}
}

func wantOwner(t *testing.T, f *Frames, frame, owner, times int) {
	t.Helper()
	if o, n, ok := f.Owner(frame); o != owner || n != times || !ok {
		t.Errorf("Owner(%d) = %d, %d, %v; want %d, %d, true", frame, o, n, ok, owner, times)
	}
}

func wantNobodys(t *testing.T, f *Frames, frame int) {
	t.Helper()
	if o, n, ok := f.Owner(frame); o != 0 || n != 0 || ok {
		t.Errorf("Owner(%d) = %d, %d, %v; want 0, 0, false", frame, o, n, ok)
	}
}

func wantCount(t *testing.T, f *Frames, owner, own, free int) {
	t.Helper()
	if o, n := f.Count(owner); o != own || n != free {
		t.Errorf("Count(%d) = %d, %d; want %d, %d", owner, o, n, own, free)
	}
}

func wantList(t *testing.T, f *Frames, owner int, want ...int) {
	t.Helper()
	if l := f.List(owner); !slices.Equal(l, want) {
		t.Errorf("List(%d) = %v; want %v", owner, l, want)
	}
}

func wantSum(t *testing.T, f *Frames, want int) {
	t.Helper()
	if n := f.Sum(); n != want {
		t.Errorf("Sum() = %d; want %d", n, want)
	}
}

// held is whose a frame is, and how often; no times: nobody's.
type held struct{ owner, times int }

// wantAll looks at all that is told but the quotas: of each frame, of each owner, and altogether.
func wantAll(t *testing.T, f *Frames, frames ...held) {
	t.Helper()
	lists := make([][]int, api.MaxGuests+1)
	free, sum := 0, 0
	for frame, h := range frames {
		if h.times == 0 {
			wantNobodys(t, f, frame)
			free++
			continue
		}
		wantOwner(t, f, frame, h.owner, h.times)
		lists[h.owner] = append(lists[h.owner], frame)
		sum += h.times
	}
	together := free
	for owner, list := range lists {
		wantCount(t, f, owner, len(list), free)
		wantList(t, f, owner, list...)
		own, _ := f.Count(owner)
		together += own
	}
	if together != len(frames) {
		t.Errorf("all counts together are %d; want %d", together, len(frames))
	}
	wantSum(t, f, sum)
}

// wantMixed looks whether one is as mixed made it.
func wantMixed(t *testing.T, f *Frames) {
	t.Helper()
	wantAll(t, f, held{0, 1}, held{0, 1}, held{1, 1}, held{1, 3}, held{2, 1}, held{0, 1}, held{}, held{})
}

// The chapter's example.

func TestExample(t *testing.T) {
	f := made(t, 4, 1)
	wantAlloc(t, f, 2, 1)
	wantErrno(t, "Hold(1, 2)", f.Hold(1, 2), api.OK)
	wantFree(t, f, 1, 2, false)
	wantFree(t, f, 1, 2, true)
	wantNoFree(t, f, 0, 0, api.ErrState)
	wantNoFree(t, f, 1, 2, api.ErrOwner)
	wantErrno(t, "Quota(3, 0)", f.Quota(3, 0), api.OK)
	wantNoAlloc(t, f, 3, api.ErrQuota)
	wantAll(t, f, held{0, 1}, held{}, held{}, held{})
}

// P16.1

func TestNewOfEverySize(t *testing.T) {
	for frames := 1; frames <= 5; frames++ {
		for first := 0; first <= frames; first++ {
			want := make([]held, frames)
			for frame := range first {
				want[frame] = held{Hypervisor, 1}
			}
			wantAll(t, made(t, frames, first), want...)
		}
	}
}

func TestNewOfMost(t *testing.T) {
	for _, first := range []int{0, 1, api.MaxFrames - 1, api.MaxFrames} {
		f := made(t, api.MaxFrames, first)
		wantCount(t, f, Hypervisor, first, api.MaxFrames-first)
		wantSum(t, f, first)
		for _, frame := range []int{0, 1, 255, 256, api.MaxFrames - 2, api.MaxFrames - 1} {
			if frame < first {
				wantOwner(t, f, frame, Hypervisor, 1)
			} else {
				wantNobodys(t, f, frame)
			}
		}
		wantNobodys(t, f, api.MaxFrames)
		if l := f.List(Hypervisor); len(l) != first || first > 0 && l[first-1] != first-1 {
			t.Errorf("New(.., %d): List tells %d frames", first, len(l))
		}
	}
}

func TestNewErrors(t *testing.T) {
	for _, frames := range edgeInts {
		for _, first := range edgeInts {
			want := api.OK
			if frames < 1 || frames > 65536 || first < 0 || first > frames {
				want = api.ErrArg
			}
			f, e := New(frames, first)
			if e != want || (f != nil) != (want == api.OK) {
				t.Errorf("New(%d, %d) = %v, %d; want %d", frames, first, f != nil, int(e), int(want))
			}
		}
	}
	for _, frames := range []int{1, 2, 5, 65535, 65536} {
		for _, first := range []int{math.MinInt, -1, frames + 1, frames + 2, 65537, math.MaxInt} {
			if f, e := New(frames, first); f != nil || e != api.ErrArg {
				t.Errorf("New(%d, %d) = %v, %d; want nil, %d", frames, first, f, int(e), int(api.ErrArg))
			}
		}
	}
}

func TestFirstOnesStay(t *testing.T) {
	f := made(t, 3, 3)
	for frame := range 3 {
		wantNoFree(t, f, frame, Hypervisor, api.ErrState)
		for to := range api.MaxGuests + 1 {
			wantErrno(t, "Move of a first one", f.Move(frame, Hypervisor, to), api.ErrState)
		}
	}
	wantAll(t, f, held{0, 1}, held{0, 1}, held{0, 1})
	// Oftener than once they are no looser.
	wantErrno(t, "Hold", f.Hold(1, Hypervisor), api.OK)
	wantNoFree(t, f, 1, Hypervisor, api.ErrState)
	wantErrno(t, "Move", f.Move(1, Hypervisor, 1), api.ErrState)
	wantAll(t, f, held{0, 1}, held{0, 2}, held{0, 1})
}

// P16.2

func TestAllocTellsTheLeast(t *testing.T) {
	f := made(t, 6, 1)
	for frame := 1; frame < 6; frame++ {
		wantAlloc(t, f, frame%3, frame)
	}
	wantAll(t, f, held{0, 1}, held{1, 1}, held{2, 1}, held{0, 1}, held{1, 1}, held{2, 1})
	wantNoAlloc(t, f, 1, api.ErrMemory)
	wantFree(t, f, 4, 1, true)
	wantFree(t, f, 2, 2, true)
	wantFree(t, f, 3, 0, true)
	wantAlloc(t, f, 16, 2)
	wantAlloc(t, f, 16, 3)
	wantFree(t, f, 1, 1, true)
	wantAlloc(t, f, 16, 1)
	wantAlloc(t, f, 16, 4)
	wantNoAlloc(t, f, 16, api.ErrMemory)
	wantAll(t, f, held{0, 1}, held{16, 1}, held{16, 1}, held{16, 1}, held{16, 1}, held{2, 1})
}

func TestAllocBehindFreeInTheMidst(t *testing.T) {
	for freed := range 6 {
		f := made(t, 8, 0)
		for frame := range 6 {
			wantAlloc(t, f, 3, frame)
		}
		wantFree(t, f, freed, 3, true)
		wantAlloc(t, f, 4, freed)
		wantAlloc(t, f, 4, 6)
		wantAlloc(t, f, 4, 7)
		wantNoAlloc(t, f, 4, api.ErrMemory)
	}
}

func TestAllocPassesWhatIsMovedOrHeld(t *testing.T) {
	f := made(t, 5, 0)
	wantAlloc(t, f, 1, 0)
	wantAlloc(t, f, 1, 1)
	wantErrno(t, "Hold", f.Hold(0, 1), api.OK)
	wantErrno(t, "Move", f.Move(1, 1, 2), api.OK)
	wantFree(t, f, 0, 1, false)
	wantAlloc(t, f, 3, 2)
}

func TestAllocOfEveryOwner(t *testing.T) {
	f := made(t, 20, 0)
	for owner := range api.MaxGuests + 1 {
		wantAlloc(t, f, owner, owner)
		wantOwner(t, f, owner, owner, 1)
		wantCount(t, f, owner, 1, 19-owner)
		wantList(t, f, owner, owner)
	}
}

func TestAllocOfNoOwner(t *testing.T) {
	f := mixed(t)
	for _, owner := range noOwners {
		wantNoAlloc(t, f, owner, api.ErrArg)
	}
	wantMixed(t, f)
	full := made(t, 1, 1)
	for _, owner := range noOwners {
		wantNoAlloc(t, full, owner, api.ErrArg) // and none is nobody's
	}
}

func TestAllocAtQuota(t *testing.T) {
	f := mixed(t)
	wantErrno(t, "Quota", f.Quota(1, 3), api.OK)
	wantAlloc(t, f, 1, 6)
	wantNoAlloc(t, f, 1, api.ErrQuota)
	wantErrno(t, "Quota", f.Quota(1, 1), api.OK)
	wantNoAlloc(t, f, 1, api.ErrQuota)
	wantErrno(t, "Quota", f.Quota(Hypervisor, 3), api.OK)
	wantNoAlloc(t, f, Hypervisor, api.ErrQuota) // the first ones count too
	wantAlloc(t, f, 2, 7)
	wantNoAlloc(t, f, 1, api.ErrQuota) // and none is nobody's
	wantNoAlloc(t, f, 2, api.ErrMemory)
	for _, owner := range noOwners {
		wantNoAlloc(t, f, owner, api.ErrArg)
	}
	wantAll(t, f, held{0, 1}, held{0, 1}, held{1, 1}, held{1, 3}, held{2, 1}, held{0, 1}, held{1, 1}, held{2, 1})
}

func TestAllocAtTheFirstQuota(t *testing.T) {
	f := made(t, 3, 3)
	wantNoAlloc(t, f, Hypervisor, api.ErrQuota) // it has as many as there are
	wantNoAlloc(t, f, 1, api.ErrMemory)
	g := made(t, 2, 0)
	wantAlloc(t, g, 5, 0)
	wantAlloc(t, g, 5, 1)
	wantNoAlloc(t, g, 5, api.ErrQuota)
	wantNoAlloc(t, g, 6, api.ErrMemory)
}

func TestAllocOfMost(t *testing.T) {
	f := made(t, api.MaxFrames, 0)
	for frame := range api.MaxFrames {
		if n, e := f.Alloc(7); n != frame || e != api.OK {
			t.Fatalf("Alloc(7) = %d, %d; want %d", n, int(e), frame)
		}
	}
	wantCount(t, f, 7, api.MaxFrames, 0)
	wantSum(t, f, api.MaxFrames)
	wantNoAlloc(t, f, 7, api.ErrQuota)
	wantNoAlloc(t, f, 8, api.ErrMemory)
	wantFree(t, f, api.MaxFrames-1, 7, true)
	wantFree(t, f, 1<<15, 7, true)
	wantAlloc(t, f, 8, 1<<15)
	wantAlloc(t, f, 8, api.MaxFrames-1)
	wantList(t, f, 8, 1<<15, api.MaxFrames-1)
}

// P16.3

func TestHoldOnceMore(t *testing.T) {
	f := mixed(t)
	wantErrno(t, "Hold(2, 1)", f.Hold(2, 1), api.OK)
	wantErrno(t, "Hold(3, 1)", f.Hold(3, 1), api.OK)
	wantErrno(t, "Hold(0, 0)", f.Hold(0, 0), api.OK)
	wantErrno(t, "Hold(5, 0)", f.Hold(5, 0), api.OK)
	wantAll(t, f, held{0, 2}, held{0, 1}, held{1, 2}, held{1, 4}, held{2, 1}, held{0, 2}, held{}, held{})
}

func TestHoldUpToTheMost(t *testing.T) {
	f := made(t, 3, 1)
	wantAlloc(t, f, 2, 1)
	for frame, owner := range []int{Hypervisor, 2} {
		for times := 2; times <= 1<<16; times++ {
			if e := f.Hold(frame, owner); e != api.OK {
				t.Fatalf("Hold(%d, %d) to have it %d times = %d", frame, owner, times, int(e))
			}
		}
		wantOwner(t, f, frame, owner, 1<<16)
		wantErrno(t, "Hold once more", f.Hold(frame, owner), api.ErrFull)
		wantErrno(t, "Hold of another's", f.Hold(frame, 3), api.ErrOwner)
		wantErrno(t, "Hold of no owner", f.Hold(frame, -1), api.ErrArg)
		wantOwner(t, f, frame, owner, 1<<16)
	}
	wantSum(t, f, 1<<17)
	wantFree(t, f, 1, 2, false)
	wantErrno(t, "Hold", f.Hold(1, 2), api.OK)
	wantErrno(t, "Hold", f.Hold(1, 2), api.ErrFull)
	for times := 1<<16 - 1; times >= 0; times-- {
		if last, e := f.Free(1, 2); last != (times == 0) || e != api.OK {
			t.Fatalf("Free(1, 2) to have it %d times = %v, %d", times, last, int(e))
		}
	}
	wantAll(t, f, held{0, 1 << 16}, held{}, held{})
	wantNoFree(t, f, 1, 2, api.ErrOwner)
}

func TestFreeDownToTheLast(t *testing.T) {
	f := mixed(t)
	wantFree(t, f, 3, 1, false)
	wantOwner(t, f, 3, 1, 2)
	wantCount(t, f, 1, 2, 2)
	wantFree(t, f, 3, 1, false)
	wantOwner(t, f, 3, 1, 1)
	wantCount(t, f, 1, 2, 2)
	wantFree(t, f, 3, 1, true)
	wantAll(t, f, held{0, 1}, held{0, 1}, held{1, 1}, held{}, held{2, 1}, held{0, 1}, held{}, held{})
	wantNoFree(t, f, 3, 1, api.ErrOwner)
	wantFree(t, f, 5, Hypervisor, true) // had by Alloc, it is none of the first
	wantAll(t, f, held{0, 1}, held{0, 1}, held{1, 1}, held{}, held{2, 1}, held{}, held{}, held{})
}

func TestFreeOfWhatIsHadAgain(t *testing.T) {
	f := made(t, 2, 0)
	wantAlloc(t, f, 1, 0)
	wantErrno(t, "Hold", f.Hold(0, 1), api.OK)
	wantFree(t, f, 0, 1, false)
	wantFree(t, f, 0, 1, true)
	wantAlloc(t, f, 2, 0) // once, however often it was had before
	wantAll(t, f, held{2, 1}, held{})
	wantNoFree(t, f, 0, 1, api.ErrOwner)
	wantFree(t, f, 0, 2, true)
	wantAll(t, f, held{}, held{})
}

func TestMove(t *testing.T) {
	f := mixed(t)
	wantErrno(t, "Move(2, 1, 2)", f.Move(2, 1, 2), api.OK)
	wantErrno(t, "Move(4, 2, 0)", f.Move(4, 2, 0), api.OK)
	wantErrno(t, "Move(5, 0, 16)", f.Move(5, 0, 16), api.OK) // had by Alloc, it is none of the first
	wantAll(t, f, held{0, 1}, held{0, 1}, held{2, 1}, held{1, 3}, held{0, 1}, held{16, 1}, held{}, held{})
	wantErrno(t, "Move by who had it", f.Move(2, 1, 3), api.ErrOwner)
	wantNoFree(t, f, 2, 1, api.ErrOwner)
	wantErrno(t, "Hold by who had it", f.Hold(2, 1), api.ErrOwner)
	wantErrno(t, "Hold by who has it", f.Hold(2, 2), api.OK)
	wantFree(t, f, 2, 2, false)
	wantFree(t, f, 2, 2, true)
	wantFree(t, f, 4, 0, true)
	wantAll(t, f, held{0, 1}, held{0, 1}, held{}, held{1, 3}, held{}, held{16, 1}, held{}, held{})
}

func TestMoveOfWhatIsHadOftener(t *testing.T) {
	f := mixed(t)
	for to := range api.MaxGuests + 1 {
		wantErrno(t, "Move(3, 1, ..)", f.Move(3, 1, to), api.ErrState) // to 1 itself too
	}
	wantErrno(t, "Quota", f.Quota(2, 0), api.OK)
	wantErrno(t, "Move to one at its quota", f.Move(3, 1, 2), api.ErrState)
	wantMixed(t, f)
	wantFree(t, f, 3, 1, false)
	wantErrno(t, "Move of what is had twice", f.Move(3, 1, 4), api.ErrState)
	wantFree(t, f, 3, 1, false)
	wantErrno(t, "Move of what is had once", f.Move(3, 1, 4), api.OK)
	wantOwner(t, f, 3, 4, 1)
}

func TestMoveToOneAtItsQuota(t *testing.T) {
	f := mixed(t)
	wantErrno(t, "Quota", f.Quota(2, 2), api.OK)
	wantErrno(t, "Quota", f.Quota(3, 0), api.OK)
	wantErrno(t, "Move(2, 1, 3)", f.Move(2, 1, 3), api.ErrQuota)
	wantErrno(t, "Move(5, 0, 2)", f.Move(5, 0, 2), api.OK)
	wantErrno(t, "Move(2, 1, 2)", f.Move(2, 1, 2), api.ErrQuota)
	wantErrno(t, "Quota", f.Quota(2, 1), api.OK)
	wantErrno(t, "Move(2, 1, 2)", f.Move(2, 1, 2), api.ErrQuota) // above its quota
	wantErrno(t, "Move(2, 2, 2)", f.Move(2, 2, 2), api.ErrOwner)
	wantErrno(t, "Move(0, 0, 2)", f.Move(0, 0, 2), api.ErrState)
	wantErrno(t, "Quota", f.Quota(1, 0), api.OK)
	wantErrno(t, "Move(4, 2, 3)", f.Move(4, 2, 3), api.ErrQuota)
	wantErrno(t, "Move(4, 2, 0)", f.Move(4, 2, 0), api.OK) // the giver's quota is not asked for
	wantErrno(t, "Move(2, 1, 4)", f.Move(2, 1, 4), api.OK)
	wantAll(t, f, held{0, 1}, held{0, 1}, held{4, 1}, held{1, 3}, held{0, 1}, held{2, 1}, held{}, held{})
}

func TestMoveToItself(t *testing.T) {
	f := mixed(t)
	wantErrno(t, "Move(2, 1, 1)", f.Move(2, 1, 1), api.OK)
	wantErrno(t, "Move(5, 0, 0)", f.Move(5, 0, 0), api.OK)
	for quota := range 3 {
		wantErrno(t, "Quota", f.Quota(1, quota), api.OK)
		wantErrno(t, "Move(2, 1, 1) at its quota", f.Move(2, 1, 1), api.OK)
	}
	wantErrno(t, "Move(0, 0, 0)", f.Move(0, 0, 0), api.ErrState)
	wantErrno(t, "Move(3, 1, 1)", f.Move(3, 1, 1), api.ErrState)
	wantErrno(t, "Move(2, 2, 2)", f.Move(2, 2, 2), api.ErrOwner)
	wantErrno(t, "Move(6, 1, 1)", f.Move(6, 1, 1), api.ErrOwner)
	wantErrno(t, "Move(6, 0, 0)", f.Move(6, 0, 0), api.ErrOwner)
	wantMixed(t, f)
}

func TestEachKindOfFrameOfEachOwner(t *testing.T) {
	kinds := []held{{0, 1}, {0, 1}, {1, 1}, {1, 3}, {2, 1}, {0, 1}, {}, {}}
	for frame, h := range kinds {
		for owner := range api.MaxGuests + 1 {
			f := mixed(t)
			if h.times > 0 && h.owner == owner {
				continue
			}
			wantErrno(t, "Hold", f.Hold(frame, owner), api.ErrOwner)
			wantNoFree(t, f, frame, owner, api.ErrOwner)
			for to := range api.MaxGuests + 1 {
				wantErrno(t, "Move", f.Move(frame, owner, to), api.ErrOwner)
			}
			wantMixed(t, f)
		}
	}
}

func TestNoOwnerAndNoFrame(t *testing.T) {
	f := mixed(t)
	for _, owner := range noOwners {
		for frame := -1; frame <= 8; frame++ {
			wantErrno(t, "Hold of no owner", f.Hold(frame, owner), api.ErrArg)
			wantNoFree(t, f, frame, owner, api.ErrArg)
			for _, other := range []int{-1, 0, 1, 2, 16, 17} {
				wantErrno(t, "Move from no owner", f.Move(frame, owner, other), api.ErrArg)
				wantErrno(t, "Move to no owner", f.Move(frame, other, owner), api.ErrArg)
			}
		}
	}
	for _, frame := range noFrames(8) {
		for _, owner := range edgeInts {
			wantErrno(t, "Hold of no frame", f.Hold(frame, owner), api.ErrArg)
			wantNoFree(t, f, frame, owner, api.ErrArg)
			wantErrno(t, "Move of no frame", f.Move(frame, owner, 1), api.ErrArg)
			wantErrno(t, "Move of no frame", f.Move(frame, 1, owner), api.ErrArg)
		}
	}
	wantMixed(t, f)
}

func TestTheLastFrame(t *testing.T) {
	f := made(t, 3, 2)
	wantAlloc(t, f, 1, 2)
	wantErrno(t, "Hold(2, 1)", f.Hold(2, 1), api.OK)
	wantFree(t, f, 2, 1, false)
	wantErrno(t, "Move(2, 1, 16)", f.Move(2, 1, 16), api.OK)
	wantOwner(t, f, 2, 16, 1)
	wantFree(t, f, 2, 16, true)
	wantAll(t, f, held{0, 1}, held{0, 1}, held{})
}

// P16.4

func TestLooksAtWhatIsNone(t *testing.T) {
	f := mixed(t)
	for _, frame := range noFrames(8) {
		wantNobodys(t, f, frame)
	}
	for _, owner := range noOwners {
		wantCount(t, f, owner, 0, 2) // nobody's frames are as many, whoever is asked for
		wantList(t, f, owner)
	}
	wantMixed(t, f)
}

func TestQuotaErrors(t *testing.T) {
	f := mixed(t)
	wantErrno(t, "Quota", f.Quota(1, 2), api.OK)
	for _, frames := range edgeInts {
		for _, owner := range noOwners {
			wantErrno(t, "Quota of no owner", f.Quota(owner, frames), api.ErrArg)
		}
		if frames < 0 {
			wantErrno(t, "Quota below 0", f.Quota(1, frames), api.ErrArg)
		}
	}
	wantNoAlloc(t, f, 1, api.ErrQuota) // it is what it was
	wantMixed(t, f)
}

func TestQuotaOfEveryNumber(t *testing.T) {
	for _, quota := range edgeInts {
		if quota < 0 {
			continue
		}
		for owner := range api.MaxGuests + 1 {
			f := made(t, 4, 0)
			wantErrno(t, "Quota", f.Quota(owner, quota), api.OK)
			for frame := range min(quota, 4) {
				wantAlloc(t, f, owner, frame)
			}
			if quota <= 4 {
				wantNoAlloc(t, f, owner, api.ErrQuota)
			} else {
				wantNoAlloc(t, f, owner, api.ErrMemory)
			}
		}
	}
}

func TestQuotaIsOneOwners(t *testing.T) {
	f := made(t, api.MaxGuests+1, 0)
	wantErrno(t, "Quota", f.Quota(3, 0), api.OK)
	next := 0
	for owner := range api.MaxGuests + 1 {
		if owner == 3 {
			wantNoAlloc(t, f, owner, api.ErrQuota)
			continue
		}
		wantAlloc(t, f, owner, next)
		next++
	}
}

func TestQuotaLoweredAndRaised(t *testing.T) {
	f := mixed(t)
	wantErrno(t, "Quota", f.Quota(1, 0), api.OK)
	wantErrno(t, "Quota", f.Quota(Hypervisor, 1), api.OK)
	wantMixed(t, f) // nothing is taken away
	wantNoAlloc(t, f, 1, api.ErrQuota)
	wantErrno(t, "Hold beyond its quota", f.Hold(2, 1), api.OK)
	wantFree(t, f, 2, 1, false)
	wantFree(t, f, 2, 1, true)
	wantNoAlloc(t, f, 1, api.ErrQuota)
	wantErrno(t, "Quota", f.Quota(1, 1), api.OK)
	wantNoAlloc(t, f, 1, api.ErrQuota)
	wantErrno(t, "Quota", f.Quota(1, 2), api.OK)
	wantAlloc(t, f, 1, 2)
	wantNoAlloc(t, f, 1, api.ErrQuota)
	wantErrno(t, "Quota", f.Quota(1, math.MaxInt), api.OK)
	wantAlloc(t, f, 1, 6)
	wantAlloc(t, f, 1, 7)
	wantNoAlloc(t, f, 1, api.ErrMemory)
	wantNoAlloc(t, f, Hypervisor, api.ErrQuota)
}

func TestListIsTheCallers(t *testing.T) {
	f := mixed(t)
	a, b := f.List(1), f.List(1)
	a[0], a[1] = 99, -1
	a = append(a, 7)
	for i := range a[:cap(a)] {
		a[:cap(a)][i] = 6
	}
	if !slices.Equal(b, []int{2, 3}) {
		t.Errorf("the other list is %v", b)
	}
	wantMixed(t, f)
	wantFree(t, f, 2, 1, true)
	if !slices.Equal(b, []int{2, 3}) {
		t.Errorf("the list is %v behind a Free", b)
	}
	for _, l := range [][]int{b, f.List(0), f.List(9)} {
		for i := range l[len(l):cap(l)] {
			if l[len(l):cap(l)][i] != 0 {
				t.Errorf("behind the list %v stands %v", l, l[len(l):cap(l)])
			}
		}
	}
}

func TestSumOfManyTimes(t *testing.T) {
	f := made(t, 4, 0)
	sum := 0
	for frame := range 4 {
		wantAlloc(t, f, frame, frame)
		for range 1000*frame + 1 {
			wantErrno(t, "Hold", f.Hold(frame, frame), api.OK)
		}
		sum += 1000*frame + 2
		wantSum(t, f, sum)
	}
}

// DOC.md, rule 1: of nil, and of one that no call made.

func TestNoFrames(t *testing.T) {
	for _, f := range []*Frames{nil, {}} {
		for _, x := range edgeInts {
			for _, y := range []int{math.MinInt, -1, 0, 1, 16, 17, math.MaxInt} {
				wantNoAlloc(t, f, x, api.ErrNil)
				wantErrno(t, "Hold", f.Hold(x, y), api.ErrNil)
				wantNoFree(t, f, x, y, api.ErrNil)
				wantErrno(t, "Move", f.Move(x, y, 1), api.ErrNil)
				wantErrno(t, "Move", f.Move(1, x, y), api.ErrNil)
				wantErrno(t, "Quota", f.Quota(x, y), api.ErrNil)
				wantErrno(t, "Quota", f.Quota(y, x), api.ErrNil)
			}
			wantNobodys(t, f, x)
			wantCount(t, f, x, 0, 0)
			wantList(t, f, x)
		}
		wantSum(t, f, 0)
	}
}

// Two of them know nothing of each other.

func TestTwoApart(t *testing.T) {
	f, g := mixed(t), mixed(t)
	wantErrno(t, "Quota", f.Quota(1, 0), api.OK)
	wantFree(t, f, 2, 1, true)
	wantErrno(t, "Move", f.Move(4, 2, 3), api.OK)
	wantErrno(t, "Hold", f.Hold(3, 1), api.OK)
	wantAlloc(t, f, 5, 2)
	wantMixed(t, g)
	wantAlloc(t, g, 1, 6)
}
