package frames

import (
	"slices"
	"testing"

	"palisade/api"
)

// scatter gives numbers that follow no plain order, always the same ones.
type scatter uint64

func (s *scatter) next() uint64 {
	*s = *s*6364136223846793005 + 1442695040888963407
	return uint64(*s>>33) ^ uint64(*s)<<31
}

// from tells a number from low to high, both of them too.
func (s *scatter) from(low, high int) int {
	return low + int(s.next()%uint64(high-low+1))
}

// ledger is what the chapter says of frames, written down plainly: a line a frame, and the quotas; all counts are taken anew each time.
type ledger struct {
	frames []held
	first  int
	quotas [api.MaxGuests + 1]int
}

func newLedger(frames, first int) *ledger {
	g := &ledger{frames: make([]held, frames), first: first}
	for frame := range first {
		g.frames[frame] = held{Hypervisor, 1}
	}
	for owner := range g.quotas {
		g.quotas[owner] = frames
	}
	return g
}

func (g *ledger) isOwner(owner int) bool { return owner >= 0 && owner < len(g.quotas) }

func (g *ledger) count(owner int) int {
	n := 0
	for _, h := range g.frames {
		if h.times > 0 && h.owner == owner {
			n++
		}
	}
	return n
}

func (g *ledger) alloc(owner int) (int, api.Errno) {
	if !g.isOwner(owner) {
		return 0, api.ErrArg
	}
	if g.count(owner) >= g.quotas[owner] {
		return 0, api.ErrQuota
	}
	frame := slices.IndexFunc(g.frames, func(h held) bool { return h.times == 0 })
	if frame < 0 {
		return 0, api.ErrMemory
	}
	g.frames[frame] = held{owner, 1}
	return frame, api.OK
}

// refuse tells the errors that Hold, Free and Move have in common.
func (g *ledger) refuse(frame int, owners ...int) api.Errno {
	if slices.ContainsFunc(owners, func(o int) bool { return !g.isOwner(o) }) || frame < 0 || frame >= len(g.frames) {
		return api.ErrArg
	}
	if h := g.frames[frame]; h.times == 0 || h.owner != owners[0] {
		return api.ErrOwner
	}
	return api.OK
}

func (g *ledger) hold(frame, owner int) api.Errno {
	if e := g.refuse(frame, owner); e != api.OK {
		return e
	}
	if g.frames[frame].times == 1<<16 {
		return api.ErrFull
	}
	g.frames[frame].times++
	return api.OK
}

func (g *ledger) free(frame, owner int) (bool, api.Errno) {
	if e := g.refuse(frame, owner); e != api.OK {
		return false, e
	}
	if frame < g.first {
		return false, api.ErrState
	}
	g.frames[frame].times--
	return g.frames[frame].times == 0, api.OK
}

func (g *ledger) move(frame, from, to int) api.Errno {
	if e := g.refuse(frame, from, to); e != api.OK {
		return e
	}
	if frame < g.first || g.frames[frame].times > 1 {
		return api.ErrState
	}
	if from != to && g.count(to) >= g.quotas[to] {
		return api.ErrQuota
	}
	g.frames[frame].owner = to
	return api.OK
}

func (g *ledger) quota(owner, frames int) api.Errno {
	if !g.isOwner(owner) || frames < 0 {
		return api.ErrArg
	}
	g.quotas[owner] = frames
	return api.OK
}

// wantAlike does what was asked of both, and holds the answers against each other.
func wantAlike(t *testing.T, f *Frames, g *ledger, s *scatter, owners int) {
	t.Helper()
	frame := s.from(-1, len(g.frames))
	owner, to := s.from(-1, owners), s.from(-1, owners)
	if frame >= 0 && frame < len(g.frames) && s.from(0, 3) > 0 { // mostly the owner itself
		owner = g.frames[frame].owner
	}
	switch s.from(0, 9) {
	case 0, 1, 2:
		n, e := f.Alloc(to)
		if want, code := g.alloc(to); n != want || e != code {
			t.Errorf("Alloc(%d) = %d, %d; want %d, %d", to, n, int(e), want, int(code))
		}
	case 3, 4:
		wantErrno(t, "Hold", f.Hold(frame, owner), g.hold(frame, owner))
	case 5, 6, 7:
		last, e := f.Free(frame, owner)
		if want, code := g.free(frame, owner); last != want || e != code {
			t.Errorf("Free(%d, %d) = %v, %d; want %v, %d", frame, owner, last, int(e), want, int(code))
		}
	case 8:
		wantErrno(t, "Move", f.Move(frame, owner, to), g.move(frame, owner, to))
	case 9:
		quota := s.from(-1, len(g.frames)+1)
		wantErrno(t, "Quota", f.Quota(to, quota), g.quota(to, quota))
	}
}

// P16.5, and the others over fixed scatters of calls.

func TestAgainstLedger(t *testing.T) {
	for seed := range 40 {
		s := scatter(seed)
		frames := 1 + seed*seed%23
		first := s.from(0, min(frames, 3))
		f, g := made(t, frames, first), newLedger(frames, first)
		wantAll(t, f, g.frames...)
		for number := range 1500 {
			wantAlike(t, f, g, &s, 1+seed%17)
			wantAll(t, f, g.frames...)
			wantOneOwner(t, f, frames)
			if t.Failed() {
				t.Fatalf("seed %d, call %d", seed, number)
			}
		}
	}
}

// wantOneOwner looks whether no frame is in the lists of two.
func wantOneOwner(t *testing.T, f *Frames, frames int) {
	t.Helper()
	seen := make([]int, frames)
	for owner := range api.MaxGuests + 1 {
		for _, frame := range f.List(owner) {
			seen[frame]++
			if o, _, ok := f.Owner(frame); !ok || o != owner {
				t.Errorf("List(%d) has %d, which is %d's, %v", owner, frame, o, ok)
			}
		}
	}
	for frame, n := range seen {
		_, _, ok := f.Owner(frame)
		if n > 1 || (n == 1) != ok {
			t.Errorf("the frame %d is in %d lists; Owner tells %v", frame, n, ok)
		}
	}
}

// A frame that is freed as often as it is had is nobody's, and no earlier.
func TestFreedAsOftenAsHad(t *testing.T) {
	for seed := range 20 {
		s := scatter(seed)
		f := made(t, 6, 1)
		var had []int // each frame as often as it is had
		for frame := 1; frame < 6; frame++ {
			wantAlloc(t, f, 4, frame)
			for range s.from(0, 9) {
				wantErrno(t, "Hold", f.Hold(frame, 4), api.OK)
				had = append(had, frame)
			}
			had = append(had, frame)
		}
		for len(had) > 0 {
			wantSum(t, f, 1+len(had))
			i := s.from(0, len(had)-1)
			frame := had[i]
			had = slices.Delete(had, i, i+1)
			wantFree(t, f, frame, 4, !slices.Contains(had, frame))
		}
		wantAll(t, f, held{0, 1}, held{}, held{}, held{}, held{}, held{})
	}
}

// The same calls are answered alike, whatever others were asked between (DOC.md, rule 5).
func TestAnsweredAlike(t *testing.T) {
	a, b, other := made(t, 12, 1), made(t, 12, 1), made(t, 12, 1)
	s, noise := scatter(5), scatter(6)
	for range 3000 {
		frame, owner, to := s.from(-1, 12), s.from(-1, 4), s.from(-1, 4)
		doubles := [2][]int{}
		for i, f := range []*Frames{a, b} {
			n, e := f.Alloc(to)
			last, code := f.Free(frame, owner)
			o, times, _ := f.Owner(frame)
			doubles[i] = []int{n, int(e), int(code), int(f.Move(frame, owner, to)), int(f.Hold(frame, to)), o, times, f.Sum()}
			if last {
				doubles[i] = append(doubles[i], 1)
			}
			for range noise.from(0, 3) {
				other.Alloc(noise.from(0, 4))
				other.Free(noise.from(0, 12), noise.from(0, 4))
				other.Quota(noise.from(0, 4), noise.from(0, 12))
			}
		}
		if !slices.Equal(doubles[0], doubles[1]) {
			t.Fatalf("frame %d, owner %d, to %d: %v, then %v", frame, owner, to, doubles[0], doubles[1])
		}
	}
}
