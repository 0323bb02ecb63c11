package disk

import (
	"slices"
	"testing"

	"palisade/api"
	"palisade/mem"
)

// scatter gives numbers that follow no plain order, always the same ones.
type scatter uint64

func (s *scatter) next() uint64 {
	*s = *s*6364136223846793005 + 1442695040888963407
	return uint64(*s>>33) ^ uint64(*s)<<31
}

// from tells a number from low to high, both of them too.
func (s *scatter) from(low, high int) int {
	return low + int(s.next()%uint64(high-low+1))
}

// model is what the chapter says of a disk and a memory, plainly: pages as arrays, and no map.
type model struct {
	blocks, frames [][api.Page]byte
	pending        []Request
}

func (m *model) submit(r Request) api.Errno {
	if r.Block < 0 || r.Block >= len(m.blocks) {
		return api.ErrBound
	}
	for _, p := range m.pending {
		if p.Id == r.Id {
			return api.ErrThere
		}
	}
	if len(m.pending) == 8 {
		return api.ErrFull
	}
	m.pending = append(m.pending, r)
	return api.OK
}

func (m *model) complete(k int) (Request, api.Errno) {
	if k < 0 || k >= len(m.pending) {
		return Request{}, api.ErrNone
	}
	r := m.pending[k]
	var left []Request
	for i, p := range m.pending {
		if i != k {
			left = append(left, p)
		}
	}
	m.pending = left
	switch {
	case r.Frame < 0 || r.Frame >= len(m.frames):
		return r, api.ErrBound
	case r.Write:
		m.blocks[r.Block] = m.frames[r.Frame]
	default:
		m.frames[r.Frame] = m.blocks[r.Block]
	}
	return r, api.OK
}

// page tells one of a few pages, so that equal ones and those that are all 0 come often.
func page(s *scatter) [api.Page]byte {
	var b [api.Page]byte
	switch s.next() % 4 {
	case 0:
	case 1:
		b[s.from(0, api.Page-1)] = byte(s.next())
	default:
		copy(b[:], pattern(s.from(0, 250)))
	}
	return b
}

// same holds all blocks, all frames and what is pending against the model.
func same(t *testing.T, d *Disk, m *mem.Memory, want *model) {
	t.Helper()
	if got := d.Pending(); !slices.Equal(got, want.pending) {
		t.Errorf("Pending = %v, want %v", got, want.pending)
	}
	for n := range want.blocks {
		wantBlock(t, d, n, want.blocks[n][:])
	}
	for n := range want.frames {
		wantFrame(t, m, n, want.frames[n][:])
	}
}

func TestAgainstModel(t *testing.T) {
	for seed := range 40 {
		s := scatter(seed)
		blocks, frames := s.from(1, 6), s.from(1, 5)
		d, m := newDisk(t, blocks), newMemory(t, frames)
		want := &model{blocks: make([][api.Page]byte, blocks), frames: make([][api.Page]byte, frames)}
		for range 500 {
			switch s.next() % 8 {
			case 0, 1, 2:
				r := Request{Id: s.from(-6, 6), Write: s.next()%2 == 0, Block: s.from(-1, blocks), Frame: s.from(-1, frames)}
				wantErrno(t, "Submit", d.Submit(r), want.submit(r))
			case 3, 4, 5:
				k := s.from(-1, len(want.pending))
				r, e := want.complete(k)
				wantComplete(t, d, m, k, r, e)
			case 6:
				n, b := s.from(0, blocks-1), page(&s)
				wantErrno(t, "Put", d.Put(n, b[:]), api.OK)
				want.blocks[n] = b
			default:
				n, b := s.from(0, frames-1), page(&s)
				putFrame(t, m, n, b[:])
				want.frames[n] = b
			}
			same(t, d, m, want)
			if t.Failed() {
				t.Fatalf("seed %d", seed)
			}
		}
	}
}

// TestEachOnce holds all that was done against all that was asked, and each of it is done once.
func TestEachOnce(t *testing.T) {
	d, m := newDisk(t, 3), newMemory(t, 1)
	s := scatter(5)
	var asked, done []int
	for i := range 3000 {
		if s.next()%2 == 0 {
			if d.Submit(Request{Id: i, Block: i % 3, Frame: i % 2}) == api.OK {
				asked = append(asked, i)
			}
		} else if r, e := d.Complete(m, s.from(0, 7)); e != api.ErrNone {
			done = append(done, r.Id)
		}
	}
	for range d.Pending() {
		r, _ := d.Complete(m, 0)
		done = append(done, r.Id)
	}
	wantPending(t, d)
	slices.Sort(done)
	if len(asked) < 500 || !slices.Equal(asked, done) {
		t.Errorf("asked %v, done %v", asked, done)
	}
}
