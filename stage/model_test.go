package stage

import (
	"slices"
	"testing"

	"palisade/api"
	"palisade/frames"
)

// scatter gives numbers that follow no plain order, always the same ones.
type scatter uint64

func (s *scatter) next() uint64 {
	*s = *s*6364136223846793005 + 1442695040888963407
	return uint64(*s>>33) ^ uint64(*s)<<31
}

// from tells a number from low to high, both of them too.
func (s *scatter) from(low, high int) int {
	return low + int(s.next()%uint64(high-low+1))
}

// paper is what the chapter says of a guest's tables, written down plainly: the pages with their frames and rights. How many lower tables there must be is counted anew each time.
type paper struct {
	guest  int
	pages  map[int]leaf
	closed bool
}

// leaf is what a page is.
type leaf struct {
	frame int
	r     Rights
}

func newPaper(guest int) *paper {
	return &paper{guest: guest, pages: map[int]leaf{}}
}

func isPage(page int) bool { return page >= 0 && page < 1024 }

func (p *paper) hasTable(place int) bool {
	for page := range p.pages {
		if page/32 == place {
			return true
		}
	}
	return false
}

func (p *paper) tables() int {
	n := 1
	for place := range 32 {
		if p.hasTable(place) {
			n++
		}
	}
	return n
}

// world is a memory with its frames, the tables of some guests over it, and what is to be told of all of them.
type world struct {
	b      board
	count  int // how many frames the memory has
	tables []*Tables
	papers []*paper
	held   map[int]held // by the frames that are somebody's
	quota  int          // the hypervisor's
	known  int          // how many frames it is told whose they are
}

func newWorld(t *testing.T, memory, known, guests int) *world {
	t.Helper()
	w := &world{count: memory, known: known, quota: known, held: map[int]held{0: {0, 1}}}
	w.b.m, w.b.f = newMemory(t, memory), newFrames(t, known)
	for guest := 1; guest <= guests; guest++ {
		w.tables = append(w.tables, newTables(t, w.b.m, w.b.f, guest))
		w.papers = append(w.papers, newPaper(guest))
		w.alloc(frames.Hypervisor)
	}
	return w
}

func (w *world) own(owner int) int {
	n := 0
	for _, h := range w.held {
		if h.owner == owner {
			n++
		}
	}
	return n
}

// least tells the least frame that is nobody's, and what hinders its being the hypervisor's.
func (w *world) least() (int, api.Errno) {
	if w.own(frames.Hypervisor) >= w.quota {
		return 0, api.ErrQuota
	}
	for frame := range w.known {
		if w.held[frame].times == 0 {
			return frame, api.OK
		}
	}
	return 0, api.ErrMemory
}

func (w *world) alloc(owner int) {
	for frame := range w.known {
		if w.held[frame].times == 0 {
			w.held[frame] = held{owner, 1}
			return
		}
	}
}

func (w *world) hold(frame, by int) {
	h := w.held[frame]
	h.times += by
	if h.times == 0 {
		delete(w.held, frame)
		return
	}
	w.held[frame] = h
}

func (w *world) mapped(p *paper, page, frame int, r Rights) api.Errno {
	switch {
	case p.closed:
		return api.ErrState
	case !isPage(page) || !slices.Contains(mayRights, r) || frame < 0 || frame >= w.count:
		return api.ErrArg
	}
	if _, there := p.pages[page]; there {
		return api.ErrThere
	}
	if h := w.held[frame]; h.times == 0 || h.owner != p.guest {
		return api.ErrOwner
	}
	if !p.hasTable(page / 32) {
		table, e := w.least()
		if e != api.OK {
			return e
		}
		if table >= w.count {
			return api.ErrBound
		}
		w.alloc(frames.Hypervisor)
	}
	w.hold(frame, 1)
	p.pages[page] = leaf{frame, r}
	return api.OK
}

// unmapped tells the frame of a page that goes. Which frame its lower table has is looked up in the memory ahead of the call.
func (w *world) unmapped(p *paper, page, table int) (int, api.Errno) {
	switch {
	case p.closed:
		return 0, api.ErrState
	case !isPage(page):
		return 0, api.ErrArg
	}
	x, there := p.pages[page]
	if !there {
		return 0, api.ErrNone
	}
	w.hold(x.frame, -1)
	delete(p.pages, page)
	if !p.hasTable(page / 32) {
		w.hold(table, -1)
	}
	return x.frame, api.OK
}

func (w *world) protected(p *paper, page int, r Rights) api.Errno {
	switch {
	case p.closed:
		return api.ErrState
	case !isPage(page) || !slices.Contains(mayRights, r):
		return api.ErrArg
	}
	x, there := p.pages[page]
	if !there {
		return api.ErrNone
	}
	x.r = r
	p.pages[page] = x
	return api.OK
}

// tableAt tells the frame of a page's lower table, as the root has it; 0: there is none.
func (w *world) tableAt(t *testing.T, x *Tables, page int) int {
	t.Helper()
	if x.Root() < 0 || !isPage(page) {
		return 0
	}
	return int(entryOf(t, w.b.m, x.Root(), page/32) / 1024)
}

// wantStep asks both for one thing, and holds the answers against each other.
func (w *world) wantStep(t *testing.T, s *scatter, pages int) {
	t.Helper()
	i := s.from(0, len(w.tables)-1)
	x, p := w.tables[i], w.papers[i]
	page := s.from(-1, pages)
	if s.from(0, 2) == 0 { // spread over all lower tables
		page = page * 37 % 1025
	}
	frame := s.from(-1, w.known)
	r := Rights{s.from(0, 5) > 0, s.from(0, 1) > 0, s.from(0, 1) > 0}
	switch s.from(0, 15) {
	case 0, 1, 2, 3, 4, 5:
		wantMap(t, x, page, frame, r, w.mapped(p, page, frame, r))
	case 6, 7, 8, 9:
		table := w.tableAt(t, x, page)
		n, e := x.Unmap(page)
		if want, code := w.unmapped(p, page, table); n != want || e != code {
			t.Errorf("Unmap(%d) = %d, %d; want %d, %d", page, n, int(e), want, int(code))
		}
	case 10, 11:
		wantProtect(t, x, page, r, w.protected(p, page, r))
	case 12, 13:
		w.b.f.Alloc(p.guest)
		w.alloc(p.guest)
	case 14:
		if h := w.held[frame]; h.times > 0 && h.owner == p.guest && h.times > w.mapsOf(frame) {
			w.b.f.Free(frame, p.guest)
			w.hold(frame, -1)
		}
	case 15:
		w.quota = s.from(0, w.known)
		w.b.f.Quota(frames.Hypervisor, w.quota)
	}
}

// mapsOf tells how many pages a frame is.
func (w *world) mapsOf(frame int) int {
	n := 0
	for _, p := range w.papers {
		for _, x := range p.pages {
			if x.frame == frame {
				n++
			}
		}
	}
	return n
}

// wantWorld looks at all that is told: of each page, of each frame, and altogether.
func (w *world) wantWorld(t *testing.T) {
	t.Helper()
	for i, x := range w.tables {
		p := w.papers[i]
		if p.closed {
			wantPages(t, x, 0, 0)
			continue
		}
		wantPages(t, x, len(p.pages), p.tables())
		for page := range 1024 {
			if want, there := p.pages[page]; there {
				wantLook(t, x, page, want.frame, want.r)
			} else {
				wantNoLook(t, x, page)
			}
		}
	}
	for frame := range w.known {
		wantOwner(t, w.b.f, frame, w.held[frame].owner, w.held[frame].times)
	}
}

func TestAgainstPaper(t *testing.T) {
	for seed := range 24 {
		s := scatter(seed)
		guests := 1 + seed%3
		memory := 6 + seed*seed%41
		w := newWorld(t, memory, max(memory+s.from(-2, 3), 1+guests), guests)
		before := bookOf(w.b.f, w.known)
		pages := []int{6, 40, 1024}[seed%3]
		for number := range 900 {
			w.wantStep(t, &s, pages)
			if number%9 == 0 {
				w.wantWorld(t)
			}
			if t.Failed() {
				t.Fatalf("seed %d, call %d", seed, number)
			}
		}
		w.wantWorld(t)
		for _, x := range w.tables {
			wantWalk(t, w.b.m, x)
		}
		w.wantClosed(t, &s, before)
		if t.Failed() {
			t.Fatalf("seed %d", seed)
		}
	}
}

// wantClosed closes all tables, one behind the other, and looks at what is left: frames are as before, but for those that were given to guests between.
func (w *world) wantClosed(t *testing.T, s *scatter, before book) {
	t.Helper()
	for i, x := range w.tables {
		p, root := w.papers[i], x.Root()
		places := make([]int, 0, 32)
		for page := range p.pages {
			places = append(places, page)
		}
		slices.Sort(places)
		for _, page := range places {
			w.unmapped(p, page, w.tableAt(t, x, page))
		}
		w.hold(root, -1)
		p.closed = true
		wantErrno(t, "Close", x.Close(), api.OK)
		wantErrno(t, "Close", x.Close(), api.ErrState)
		w.wantWorld(t)
		for range 20 { // those that are closed stay so, the others go on
			w.wantStep(t, s, 40)
		}
		w.wantWorld(t)
	}
	for frame, h := range before {
		if o, n, _ := w.b.f.Owner(frame); h.owner == 0 && frame > 0 && o == 0 && n > 0 {
			t.Errorf("the frame %d is the hypervisor's behind Close", frame)
		}
	}
}

// The same calls are answered alike, whatever others were asked between (DOC.md, rule 5).
func TestAnsweredAlike(t *testing.T) {
	s, noise := scatter(5), scatter(6)
	a, b, other := made(t, 30), made(t, 30), made(t, 30)
	for range 8 {
		alloc(t, a.f, 1)
		alloc(t, b.f, 1)
		alloc(t, other.f, 1)
	}
	for range 2000 {
		page, frame, gone, r := s.from(-1, 200), s.from(0, 12), s.from(0, 200), mayRights[s.from(0, 4)]
		var told [2][]int
		for i, x := range []board{a, b} {
			n, e := x.Unmap(gone)
			told[i] = []int{int(x.Map(page, frame, r)), n, int(e), int(x.Protect(gone+1, r))}
			pages, tables := x.Pages()
			found, _, _ := x.Look(page)
			told[i] = append(told[i], pages, tables, found)
			for range noise.from(0, 3) {
				other.Map(noise.from(0, 200), noise.from(0, 12), all)
				other.Unmap(noise.from(0, 200))
			}
		}
		if !slices.Equal(told[0], told[1]) {
			t.Fatalf("Map(%d, %d, %v), Unmap(%d): %v, then %v", page, frame, r, gone, told[0], told[1])
		}
	}
	if !a.m.Same(b.m) {
		t.Error("the memories are not the same")
	}
}
