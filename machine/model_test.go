package machine

import (
	"maps"
	"slices"
	"testing"

	"palisade/api"
	"palisade/csr"
	"palisade/entry"
	"palisade/hart"
	"palisade/insn"
	"palisade/mem"
	"palisade/walk"
)

// scatter gives numbers that follow no plain order, always the same ones.
type scatter uint64

func (s *scatter) next() uint64 {
	*s = *s*6364136223846793005 + 1442695040888963407
	return uint64(*s>>33) ^ uint64(*s)<<31
}

func (s *scatter) below(n int) int { return int(s.next() % uint64(n)) }
func (s *scatter) flip() bool      { return s.next()>>7%2 == 0 }
func (s *scatter) of(l []int) int  { return l[s.below(len(l))] }
func (s *scatter) rare(n int) bool { return s.below(n) == 0 }

// page tells one of a few pages, most often, so that what is kept is met again.
func (s *scatter) page() int {
	if s.rare(4) {
		return s.below(pages)
	}
	return s.below(12)
}

// start tells where a program may begin.
func (s *scatter) start() uint64 { return uint64(s.page()*api.Page + 64 + 4*s.below(48)) }

func (s *scatter) address() uint64 { return uint64(s.page()*api.Page + 8*s.below(4)) }

// kept is a translation, with all that its key is made of.
type kept struct {
	guest, root int
	page        uint64
	user        bool
}

type keptPage struct {
	kept
	found walk.Found
}

// modelCore is what the chapter says of a core, plainly: a bus over a memory of the model's own.
type modelCore struct {
	all   *model
	has   bool
	c     Context
	list  []keptPage // the oldest first
	holds bool
	held  uint64
	named [guests]map[int]bool // what the second stage's tables of each guest named since the last Flush or Fence
}

type model struct {
	t      *testing.T
	memory *mem.Memory
	cores  []*modelCore
	seen   map[string]int // how often what was met: a scatter that never comes to something asks nothing of it
}

func (m *modelCore) Translate(root int, at uint64, access int, user bool) (uint64, api.Trap) {
	key := kept{m.c.Guest, root, at >> 8, user}
	i := slices.IndexFunc(m.list, func(k keptPage) bool { return k.kept == key })
	if i >= 0 {
		f := m.list[i].found
		if access == entry.Fetch && f.Exec || access == entry.Load && f.Read || access == entry.Store && f.Write {
			if now, _ := walk.Two(m.all.memory, root, m.c.Root, at, access, user); now != f {
				m.all.seen["kept, and otherwise in the tables"]++
			}
			return m.reached(f.Frame)<<8 + at&255, api.Trap{}
		}
		m.all.seen["kept, and not allowed"]++
	}
	f, trap := walk.Two(m.all.memory, root, m.c.Root, at, access, user)
	if trap != (api.Trap{}) {
		return 0, trap
	}
	if i >= 0 {
		m.list[i].found = f
		m.all.seen["found in the place of another"]++
	} else if m.list = append(m.list, keptPage{key, f}); len(m.list) > 16 {
		m.list = m.list[1:]
		m.all.seen["the oldest goes"]++
	}
	return m.reached(f.Frame)<<8 + at&255, api.Trap{}
}

// reached asks for P11.5: a frame that is reached was named.
func (m *modelCore) reached(frame int) uint64 {
	if !m.named[m.c.Guest][frame] {
		m.all.t.Errorf("the guest %d reaches the frame %d, which its tables did not name", m.c.Guest, frame)
	}
	return uint64(frame)
}

func (m *modelCore) Load(at uint64, width int) (uint64, api.Errno) {
	return m.all.memory.Load(at, width)
}

func (m *modelCore) Store(at uint64, width int, v uint64) api.Errno {
	e := m.all.memory.Store(at, width, v)
	for _, o := range m.all.cores {
		if e == api.OK && o.holds && at>>3 == o.held>>3 {
			o.holds = false
			m.all.seen["let go by a store"]++
		}
	}
	return e
}

func (m *modelCore) Hold(at uint64) { m.holds, m.held = true, at }

func (m *modelCore) Held(at uint64) bool {
	is := m.holds && m.held == at
	m.holds = false
	if is {
		m.all.seen["held"]++
	} else {
		m.all.seen["not held"]++
	}
	return is
}

func (m *modelCore) forget(guest int) int {
	was := len(m.list)
	m.list = slices.DeleteFunc(m.list, func(k keptPage) bool { return k.guest == guest })
	if guest >= 0 && guest < guests {
		m.named[guest] = m.all.names(guest)
	}
	return was - len(m.list)
}

func (m *modelCore) frames(guest int) []int {
	all := map[int]bool{}
	for _, k := range m.list {
		if k.guest == guest {
			all[k.found.Frame] = true
		}
	}
	return slices.Sorted(maps.Keys(all))
}

// names tells the frames that a guest's second stage names now.
func (m *model) names(guest int) map[int]bool {
	all := map[int]bool{}
	for page := range pages {
		v, _ := m.memory.Load(uint64(rootOf(guest)+1+page/32)*256+8*uint64(page%32), 8)
		if v&1 == 1 {
			all[int(v>>10)] = true
		}
	}
	return all
}

// pair is a machine and its model, to which the same is done.
type pair struct {
	*rig
	scatter
	model *model
}

func newPair(t *testing.T, cores int, seed uint64, seen map[string]int) *pair {
	t.Helper()
	p := &pair{rig: newRig(t, cores), scatter: scatter(seed)}
	for frame := 32; frame < frames; frame++ {
		// The first bytes are loaded and stored, so that programs stay.
		for at := 64; at < api.Page; at += 4 {
			p.m.Memory().Store(uint64(frame*api.Page+at), 4, uint64(p.instruction()))
		}
	}
	for guest := range guests {
		for _, first := range []int{firstA, firstB} {
			p.m.Memory().Clear(frameOf(guest, first+1))
			for page := range api.Slots {
				p.first(guest, first, page, p.entry(page))
			}
		}
	}
	p.model = &model{t: t, memory: p.m.Memory().Clone(), seen: seen}
	for range cores {
		c := &modelCore{all: p.model}
		for guest := range guests {
			c.named[guest] = p.model.names(guest)
		}
		p.model.cores = append(p.model.cores, c)
	}
	return p
}

// instruction tells one that reaches the memory, most often.
func (p *pair) instruction() uint32 {
	often := []int{insn.Ld, insn.Lw, insn.Lb, insn.Sd, insn.Sw, insn.Sb, insn.Lr, insn.Lr, insn.Sc, insn.Sc, insn.Amoadd, insn.Amoswp}
	for {
		x := api.Insn{Op: p.of(often), Rd: p.below(8) + 8, Rs1: p.below(7) + 1, Rs2: p.below(16), Imm: p.below(5) * 8}
		if p.rare(6) {
			x.Op, x.Imm = 1+p.below(insn.Csrrc), p.below(12)
		}
		if p.rare(300) {
			return uint32(p.next())
		}
		// Fields that the operation's shape has not are 0.
		switch shape, _ := insn.Shape(x.Op); shape {
		case insn.Three:
			x.Imm = 0
		case insn.Two:
			x.Rs2 = 0
		case insn.Stores, insn.Branch:
			x.Rd = 0
		case insn.Long:
			x.Rs1, x.Rs2 = 0, 0
		case insn.One:
			x.Rd, x.Rs2, x.Imm = 0, 0, 0
		case insn.None:
			x = api.Insn{Op: x.Op}
		}
		if x.Op == insn.Lr {
			x.Rs2 = 0
		}
		if w, e := insn.Encode(x); e == api.OK {
			return w
		}
	}
}

// entry tells one of a page, with some rights.
func (p *pair) entry(frame int) entry.Entry {
	x := rwx(frame)
	if p.flip() {
		x.Write = p.flip()
		x.Exec = p.flip()
		x.Read = x.Write || !x.Exec || p.flip()
	}
	x.User = p.rare(3)
	return x
}

// both lays an entry of a table into both memories.
func (p *pair) both(frame, place int, x entry.Entry) {
	p.put(frame, place, x)
	v, _ := entry.Pack(x)
	p.model.memory.Store(uint64(frame*api.Page+8*place), 8, v)
}

// remap changes a page of a guest's second stage.
func (p *pair) remap() {
	guest, page := p.below(guests), p.scatter.page()
	x := entry.Entry{}
	if !p.rare(12) {
		x = p.entry(32 + p.below(frames-32))
		x.User = !p.rare(10)
		if p.rare(40) {
			x.Frame = frames + p.below(api.MaxFrames-frames)
		}
		for _, c := range p.model.cores {
			c.named[guest][x.Frame] = true
		}
	}
	p.both(rootOf(guest)+1+page/api.Slots, page%api.Slots, x)
}

// remapFirst changes a page of a guest's first stage, where that lies at first.
func (p *pair) remapFirst() {
	x := entry.Entry{}
	if !p.rare(6) {
		x = p.entry(p.below(pages))
	}
	p.both(frameOf(p.below(guests), p.of([]int{firstA, firstB})+1), p.below(api.Slots), x)
}

// come puts a new context onto a core, or tries to.
func (p *pair) come(core int) {
	c := who{p.below(guests), p.below(2), p.of([]int{-1, -1, firstA, firstA, firstB})}.context()
	if p.rare(20) {
		c.Guest -= guests
	}
	if p.rare(20) {
		c.Root = p.of([]int{-1, frames, frames + 1})
	}
	for i := range c.Regs.X {
		c.Regs.X[i] = p.address()
	}
	c.Regs.Pc = p.start()
	c.File.Set(csr.Vector, p.start())
	m := p.model.cores[core]
	want := api.OK
	if c.Guest < 0 || c.Root < 0 || c.Root >= frames {
		want = api.ErrArg
	} else if m.has {
		want = api.ErrThere
	}
	wantErrno(p.t, "Put", p.m.Put(core, c), want)
	if want == api.OK {
		m.has, m.c, m.holds = true, c, false
		m.c.File = c.File.Clone()
	}
}

// leave takes a core's context away, or tries to.
func (p *pair) leave(core int) {
	m := p.model.cores[core]
	if !m.has {
		wantNoTake(p.t, p.m, core, api.ErrNone)
		return
	}
	if _, e := p.m.Take(core); e != api.OK {
		p.t.Errorf("Take = %d", int(e))
	}
	m.has, m.holds = false, false
}

func (p *pair) stepBoth(core int) {
	m := p.model.cores[core]
	if !m.has {
		wantNoStep(p.t, p.m, core, api.ErrNone)
		return
	}
	want, wantE := hart.Step(&m.c.Regs, m.c.File, m)
	p.model.seen[[]string{"done", "trapped", "call", "beyond", "waits"}[want.Kind]]++
	if want.Fence {
		m.forget(m.c.Guest)
		p.model.seen["fence"]++
	}
	if result, e := p.m.Step(core); result != want || e != wantE {
		p.t.Errorf("core %d: Step = %+v, %d; want %+v, %d", core, result, int(e), want, int(wantE))
	}
	// Where it can't go on by itself somebody else comes.
	if want.Kind != hart.Done && p.flip() {
		p.same(core)
		p.leave(core)
		p.come(core)
	}
}

// same holds a core against the model's.
func (p *pair) same(core int) {
	p.t.Helper()
	m := p.model.cores[core]
	for guest := range guests {
		wantKept(p.t, p.m, core, guest, m.frames(guest)...)
		for _, frame := range p.m.Kept(core, guest) {
			if !m.named[guest][frame] {
				p.t.Errorf("the core %d keeps the frame %d, which the guest %d's tables did not name", core, frame, guest)
			}
		}
	}
	if !m.has {
		wantNone(p.t, p.m, core)
		return
	}
	c, ok := p.m.Get(core)
	if !ok || c.Guest != m.c.Guest || c.Root != m.c.Root || c.Regs != m.c.Regs {
		p.t.Errorf("core %d: Get = %+v, %v; want %+v", core, c, ok, m.c)
	}
	for n := range 12 {
		if v, want := c.File.Get(n), m.c.File.Get(n); v != want {
			p.t.Errorf("core %d: the control register %d is %#x; want %#x", core, n, v, want)
		}
	}
}

// any does something to both.
func (p *pair) any() {
	core := p.below(len(p.model.cores))
	switch k := p.below(100); {
	case k < 10:
		p.remap()
	case k < 15:
		p.remapFirst()
	case k < 18:
		p.come(core)
	case k < 19:
		p.leave(core)
	case k < 20:
		guest := p.below(guests+2) - 1
		wantFlush(p.t, p.m, core, guest, p.model.cores[core].forget(guest))
	default:
		p.stepBoth(core)
	}
	p.same(core)
	if !p.m.Memory().Same(p.model.memory) {
		p.t.Error("the memories differ")
	}
}

// TestAgainstModel does the same to machines and to models, over and over.
func TestAgainstModel(t *testing.T) {
	seen := map[string]int{}
	for cores := 1; cores <= api.MaxCores; cores++ {
		for seed := range 4 {
			p := newPair(t, cores, uint64(100*cores+seed), seen)
			for i := range 8000 {
				p.any()
				if t.Failed() {
					t.Fatalf("%d cores, seed %d, step %d", cores, seed, i)
				}
			}
		}
	}
	for _, what := range []string{
		"done", "trapped", "call", "beyond", "waits", "fence", "held", "not held", "let go by a store", "the oldest goes",
		"kept, and otherwise in the tables", "kept, and not allowed", "found in the place of another",
	} {
		if seen[what] < 20 {
			t.Errorf("%s: only %d times", what, seen[what])
		}
	}
}
