package ring

import (
	"maps"
	"math"
	"slices"
	"testing"

	"palisade/api"
	"palisade/mem"
)

// edgeInts are heads, sizes and numbers of bytes at both ends of int, and some between.
var edgeInts = []int{math.MinInt, math.MinInt + 1, math.MinInt + 64, -1 << 32, math.MinInt32, -128, -64, -2, -1, 0, 1, 2, 3, 4, 7, 63, 64, 65, 128, 4096, 4097, math.MaxInt32, math.MaxInt32 + 1, 1 << 32, 1<<32 + 1, 1 << 40, 1 << 62, math.MaxInt - 1, math.MaxInt}

// sizes are how many descriptors a ring may have.
var sizes = []int{1, 2, 4, 8, 16, 32, 64}

// What kinds of accesses there are.
const (
	loads = iota
	stores
	others // what no ring asks for
)

// access is what a guest was asked for: the number that it told or that it was to store, if it did.
type access struct {
	kind  int
	at    uint64
	width int
	v     uint64
}

func load(at, v uint64) access  { return access{loads, at, 8, v} }
func store(at, v uint64) access { return access{stores, at, 8, v} }

// guest is a guest's memory of numbers. It keeps what it was asked for.
type guest struct {
	numbers   map[uint64]uint64 // those that are not 0
	asked     []access
	refuses   func(asked int) api.Errno // nil: nothing
	meanwhile func(asked int)           // what it does ahead of an access; nil: nothing
}

func newGuest() *guest { return &guest{numbers: map[uint64]uint64{}} }

// write lets the guest itself write a number.
func (g *guest) write(at, v uint64) {
	g.numbers[at] = v
	if v == 0 {
		delete(g.numbers, at)
	}
}

// ahead does what is done ahead of each access.
func (g *guest) ahead() api.Errno {
	if g.meanwhile != nil {
		g.meanwhile(len(g.asked))
	}
	if g.refuses != nil {
		return g.refuses(len(g.asked))
	}
	return api.OK
}

func (g *guest) Load(at uint64, width int) (uint64, api.Errno) {
	e := g.ahead()
	v := g.numbers[at]
	g.asked = append(g.asked, access{loads, at, width, v})
	return v, e // a number beside an error is none
}

func (g *guest) Store(at uint64, width int, v uint64) api.Errno {
	e := g.ahead()
	g.asked = append(g.asked, access{stores, at, width, v})
	if e == api.OK {
		g.write(at, v)
	}
	return e
}

func (g *guest) Bytes(at uint64, n int) ([]byte, api.Errno) {
	g.asked = append(g.asked, access{kind: others, at: at, width: n})
	return make([]byte, max(n, 0)), api.OK
}

func (g *guest) Put(at uint64, b []byte) api.Errno {
	g.asked = append(g.asked, access{kind: others, at: at, width: len(b)})
	return api.OK
}

// wantAsked looks what the guest was asked for since the last look.
func wantAsked(t *testing.T, what string, g *guest, want ...access) {
	t.Helper()
	if !slices.Equal(g.asked, want) {
		t.Errorf("%s asked the guest for %v; want %v", what, g.asked, want)
	}
	g.asked = nil
}

// layout tells where things stand in a ring, as the chapter has it.
type layout struct {
	at uint64
	n  int
}

func (l layout) descriptor(number int) uint64 { return l.at + 32*uint64(number) }
func (l layout) offered() uint64              { return l.at + 32*uint64(l.n) }
func (l layout) head(k uint64) uint64         { return l.offered() + 8 + 8*(k%uint64(l.n)) }
func (l layout) given() uint64                { return l.at + 40*uint64(l.n) + 8 }
func (l layout) pair(k uint64) uint64         { return l.given() + 8 + 16*(k%uint64(l.n)) }
func (l layout) end() uint64                  { return l.at + 56*uint64(l.n) + 16 }

// lay writes a descriptor.
func (l layout) lay(g *guest, number int, four [4]uint64) {
	for i, v := range four {
		g.write(l.descriptor(number)+8*uint64(i), v)
	}
}

// offer offers a head, the k-th of all.
func (l layout) offer(g *guest, k uint64, head uint64) {
	g.write(l.head(k), head)
	g.write(l.offered(), k+1)
}

// read tells the reads of a descriptor.
func (l layout) read(g *guest, number int) (reads []access) {
	for i := range uint64(4) {
		at := l.descriptor(number) + 8*i
		reads = append(reads, load(at, g.numbers[at]))
	}
	return reads
}

// reads tells the reads of a Next, the k-th of all, of a chain of these descriptors.
func (l layout) reads(g *guest, k uint64, chain ...int) []access {
	reads := []access{load(l.offered(), g.numbers[l.offered()]), load(l.head(k), g.numbers[l.head(k)])}
	for _, number := range chain {
		reads = append(reads, l.read(g, number)...)
	}
	return reads
}

// laid makes a ring, and a guest whose descriptors are each a chain of one part.
func laid(t *testing.T, at uint64, n int) (*Ring, *guest, layout) {
	t.Helper()
	r, g, l := fresh(t, at, n), newGuest(), layout{at, n}
	for number := range n {
		l.lay(g, number, plain(number))
	}
	return r, g, l
}

// plain is a descriptor of its own bytes, without a next one.
func plain(number int) [4]uint64 {
	return [4]uint64{uint64(1024 + 64*number), uint64(number + 1), 0, 0}
}

func plainChain(number int) Chain {
	return Chain{Head: number, Parts: []Part{{At: uint64(1024 + 64*number), Len: number + 1}}}
}

func wantErrno(t *testing.T, what string, e, want api.Errno) {
	t.Helper()
	if e != want {
		t.Errorf("%s = %d; want %d", what, int(e), int(want))
	}
}

func fresh(t *testing.T, at uint64, n int) *Ring {
	t.Helper()
	r, e := New(at, n)
	if r == nil || e != api.OK {
		t.Fatalf("New(%d, %d) = %p, %d; want 0", at, n, r, int(e))
	}
	return r
}

func same(a, b Chain) bool { return a.Head == b.Head && slices.Equal(a.Parts, b.Parts) }

func next(t *testing.T, r *Ring, g Guest, want Chain) {
	t.Helper()
	if c, ok, e := r.Next(g); !same(c, want) || !ok || e != api.OK {
		t.Errorf("Next = %+v, %v, %d; want %+v, true, 0", c, ok, int(e), want)
	}
}

// nextNone looks for a Next that takes nothing.
func nextNone(t *testing.T, r *Ring, g Guest, want api.Errno) {
	t.Helper()
	if c, ok, e := r.Next(g); c.Head != 0 || c.Parts != nil || ok || e != want {
		t.Errorf("Next = %+v, %v, %d; want zeros, false, %d", c, ok, int(e), int(want))
	}
}

func push(t *testing.T, r *Ring, g Guest, head, n int) {
	t.Helper()
	if e := r.Push(g, head, n); e != api.OK {
		t.Errorf("Push(%d, %d) = %d; want 0", head, n, int(e))
	}
}

func wantTold(t *testing.T, r *Ring, taken, given uint64, broken bool) {
	t.Helper()
	if k, back, is := r.Told(); k != taken || back != given || is != broken {
		t.Errorf("Told = %d, %d, %v; want %d, %d, %v", k, back, is, taken, given, broken)
	}
}

// wantBroken looks whether a ring answers as one that is broken does, and leaves the guest alone.
func wantBroken(t *testing.T, r *Ring, g *guest, taken, given uint64) {
	t.Helper()
	g.asked, g.refuses, g.meanwhile = nil, nil, nil
	before := maps.Clone(g.numbers)
	for range 2 {
		wantTold(t, r, taken, given, true)
		nextNone(t, r, g, api.ErrRing)
		for _, head := range edgeInts {
			wantErrno(t, "Push into a broken ring", r.Push(g, head, 0), api.ErrRing)
			wantErrno(t, "Push into a broken ring", r.Push(g, 0, head), api.ErrRing)
		}
		nextNone(t, r, nil, api.ErrNil)
		wantErrno(t, "Push without a guest", r.Push(nil, 0, 0), api.ErrNil)
	}
	wantAsked(t, "a broken ring", g)
	if !maps.Equal(g.numbers, before) {
		t.Errorf("a broken ring changed the guest's memory: %v, then %v", before, g.numbers)
	}
}

// The chapter's example.

func TestExample(t *testing.T) {
	if n, e := Size(2); n != 128 || e != api.OK {
		t.Errorf("Size(2) = %d, %d; want 128, 0", n, int(e))
	}
	m, _ := mem.New(8)
	r := fresh(t, 0, 2)
	m.Store(0, 8, 1024)
	m.Store(8, 8, 5)
	m.Store(64, 8, 1)
	next(t, r, m, Chain{Head: 0, Parts: []Part{{At: 1024, Len: 5}}})
	nextNone(t, r, m, api.OK)
	push(t, r, m, 0, 0)
	if v, e := m.Load(88, 8); v != 1 || e != api.OK {
		t.Errorf("the count of what is given back is %d, %d; want 1, 0", v, int(e))
	}
}

// DOC.md, rule 1: of a ring that is nil, of one that no call made, and without a guest.

func TestNobodys(t *testing.T) {
	for _, r := range []*Ring{nil, {}} {
		for _, g := range []*guest{nil, newGuest()} {
			var met Guest
			if g != nil {
				met = g
				g.write(0, 1)
			}
			nextNone(t, r, met, api.ErrNil)
			for _, head := range edgeInts {
				for _, n := range edgeInts {
					wantErrno(t, "Push", r.Push(met, head, n), api.ErrNil)
				}
			}
			wantTold(t, r, 0, 0, false)
			if g != nil {
				wantAsked(t, "a ring that no call made", g)
			}
		}
	}
}

func TestNoGuest(t *testing.T) {
	r, g, l := laid(t, 8, 4)
	l.offer(g, 0, 0)
	l.offer(g, 1, 1)
	next(t, r, g, plainChain(0))
	before := *r
	nextNone(t, r, nil, api.ErrNil)
	for _, head := range edgeInts {
		for _, n := range edgeInts {
			wantErrno(t, "Push without a guest", r.Push(nil, head, n), api.ErrNil)
		}
	}
	if *r != before {
		t.Errorf("calls without a guest changed something: %+v, then %+v", before, *r)
	}
	next(t, r, g, plainChain(1))
	push(t, r, g, 0, 0)
}

// nobody is a guest that can't be asked for anything where it is a nil pointer.
type nobody struct{ g guest }

func (n *nobody) Load(at uint64, width int) (uint64, api.Errno)  { return n.g.Load(at, width) }
func (n *nobody) Store(at uint64, width int, v uint64) api.Errno { return n.g.Store(at, width, v) }
func (n *nobody) Bytes(at uint64, k int) ([]byte, api.Errno)     { return n.g.Bytes(at, k) }
func (n *nobody) Put(at uint64, b []byte) api.Errno              { return n.g.Put(at, b) }

// One that panics is no guest: nothing is changed, and the ring goes on.
func TestGuestThatPanics(t *testing.T) {
	r, g, l := laid(t, 0, 2)
	l.lay(g, 0, [4]uint64{8, 8, 1, 1})
	l.offer(g, 0, 0)
	chain := Chain{Head: 0, Parts: []Part{{At: 8, Len: 8}, {At: 1088, Len: 2}}}
	panics := func(when int) func(int) {
		return func(asked int) {
			if asked == when {
				panic("no guest")
			}
		}
	}
	nextNone(t, r, (*nobody)(nil), api.ErrNil)
	for when := range 10 {
		g.asked, g.meanwhile = nil, panics(when)
		nextNone(t, r, g, api.ErrNil)
		wantTold(t, r, 0, 0, false)
	}
	g.meanwhile = nil
	next(t, r, g, chain)
	wantErrno(t, "Push to no guest", r.Push((*nobody)(nil), 0, 0), api.ErrNil)
	for when := range 3 {
		g.asked, g.meanwhile = nil, panics(when)
		wantErrno(t, "Push to a guest that panics", r.Push(g, 0, 7), api.ErrNil)
		wantTold(t, r, 1, 0, false)
	}
	g.asked, g.meanwhile = nil, nil
	push(t, r, g, 0, 7)
	wantTold(t, r, 1, 1, false)
}

// P23.1

func TestNew(t *testing.T) {
	for _, n := range append(slices.Clone(edgeInts), 5, 6, 8, 12, 16, 31, 32, 33, 48, 62, 66, 127, 256) {
		isSize := slices.Contains(sizes, n)
		for _, x := range []struct {
			at uint64
			is bool
		}{
			{0, true}, {4, false}, {8, true}, {1, false}, {7, false}, {9, false}, {16, true}, {1<<32 + 8, true}, {1<<40 - 8, true},
			{1<<40 - 4, false}, {1<<40 - 1, false}, {1 << 40, true}, {1<<40 + 1, false}, {1<<40 + 4, false}, {1<<40 + 8, false}, {1 << 41, false},
			{1 << 63, false}, {math.MaxUint64 - 7, false}, {math.MaxUint64, false},
		} {
			r, e := New(x.at, n)
			if isSize && x.is {
				if r == nil || e != api.OK {
					t.Errorf("New(%d, %d) = %p, %d; want 0", x.at, n, r, int(e))
				}
				wantTold(t, r, 0, 0, false)
			} else if r != nil || e != api.ErrArg {
				t.Errorf("New(%d, %d) = %p, %d; want nil, 2", x.at, n, r, int(e))
			}
		}
		size, e := Size(n)
		if isSize && (size != 56*n+16 || e != api.OK) || !isSize && (size != 0 || e != api.ErrArg) {
			t.Errorf("Size(%d) = %d, %d", n, size, int(e))
		}
	}
	for n, want := range map[int]int{1: 72, 2: 128, 64: 3600} {
		if size, e := Size(n); size != want || e != api.OK {
			t.Errorf("Size(%d) = %d, %d; want %d, 0", n, size, int(e), want)
		}
	}
}

// Two rings go on by themselves, of the same place too.
func TestTwoRings(t *testing.T) {
	r, g, l := laid(t, 0, 2)
	other := fresh(t, 0, 2)
	l.offer(g, 0, 1)
	next(t, r, g, plainChain(1))
	wantTold(t, other, 0, 0, false)
	next(t, other, g, plainChain(1))
	g.write(l.offered(), 9)
	nextNone(t, r, g, api.ErrRing)
	wantTold(t, other, 1, 0, false)
	push(t, other, g, 1, 1)
	wantBroken(t, r, g, 1, 0)
}

// P23.2

// Nothing, one, n, and one more.
func TestOffers(t *testing.T) {
	for _, n := range sizes {
		for _, at := range []uint64{0, 8, 4096, 1 << 40} {
			r, g, l := laid(t, at, n)
			nextNone(t, r, g, api.OK)
			wantAsked(t, "Next of nothing", g, load(l.offered(), 0))
			l.offer(g, 0, uint64(n-1))
			next(t, r, g, plainChain(n-1))
			wantAsked(t, "Next of one", g, l.reads(g, 0, n-1)...)
			nextNone(t, r, g, api.OK)
			wantAsked(t, "Next of nothing more", g, load(l.offered(), 1))
			for k := range n {
				l.offer(g, uint64(1+k), uint64(k))
			}
			for k := range n {
				next(t, r, g, plainChain(k))
				wantAsked(t, "Next of n", g, l.reads(g, uint64(1+k), k)...)
				wantTold(t, r, uint64(2+k), 0, false)
			}
			nextNone(t, r, g, api.OK)
			taken := uint64(n + 1)
			g.write(l.offered(), taken+uint64(n)+1)
			g.asked = nil
			nextNone(t, r, g, api.ErrRing)
			wantAsked(t, "Next of too many", g, load(l.offered(), 2*taken))
			wantBroken(t, r, g, taken, 0)
		}
	}
}

// Counts hang on what was taken, modulo 2^64.
func TestCounts(t *testing.T) {
	for _, n := range sizes {
		size := uint64(n)
		for _, taken := range []uint64{0, 1, size - 1, size, 1000, 1 << 63, math.MaxUint64 - size, math.MaxUint64 - 1, math.MaxUint64} {
			for _, more := range []uint64{0, 1, size - 1, size, size + 1, size + 2, 1 << 32, 1 << 63, -size, math.MaxUint64 - 1, math.MaxUint64} {
				r, g, l := laid(t, 64, n)
				r.taken, r.given = taken, taken-1
				g.write(l.head(taken), size-1)
				g.write(l.offered(), taken+more)
				switch {
				case more == 0:
					nextNone(t, r, g, api.OK)
					wantTold(t, r, taken, taken-1, false)
				case more > size:
					nextNone(t, r, g, api.ErrRing)
					wantBroken(t, r, g, taken, taken-1)
				default:
					next(t, r, g, plainChain(n-1))
					wantTold(t, r, taken+1, taken-1, false)
				}
			}
		}
	}
}

// Chains that are taken one by one while the count goes round past 2^64, and given back as well.
func TestRoundPastAll(t *testing.T) {
	for _, n := range sizes {
		r, g, l := laid(t, 0, n)
		begun := -uint64(n) - 3
		r.taken, r.given = begun, begun
		g.write(l.given(), begun)
		for k := begun; k != uint64(n)+3; k++ {
			number := int(k*5) & (n - 1)
			l.offer(g, k, uint64(number))
			next(t, r, g, plainChain(number))
			wantTold(t, r, k+1, k, false)
			nextNone(t, r, g, api.OK)
			g.asked = nil
			push(t, r, g, number, int(k)&1023)
			wantAsked(t, "Push", g, store(l.pair(k), uint64(number)), store(l.pair(k)+8, k&1023), store(l.given(), k+1))
			wantTold(t, r, k+1, k+1, false)
		}
	}
}

func TestHeads(t *testing.T) {
	for _, n := range sizes {
		for _, head := range []uint64{0, 1, uint64(n) - 1, uint64(n), uint64(n) + 1, 2 * uint64(n), 64, 65, 1 << 32, 1<<32 + 1, 1 << 59, 1 << 63, 1<<63 + 1, math.MaxUint64 - 1, math.MaxUint64} {
			r, g, l := laid(t, 0, n)
			l.offer(g, 0, head)
			if head < uint64(n) {
				next(t, r, g, plainChain(int(head)))
				wantAsked(t, "Next", g, l.reads(g, 0, int(head))...)
				wantTold(t, r, 1, 0, false)
				continue
			}
			nextNone(t, r, g, api.ErrRing)
			wantAsked(t, "Next of a head beyond the ring", g, l.reads(g, 0)...)
			wantBroken(t, r, g, 0, 0)
		}
	}
}

// What a single descriptor may be, and may not, whether it is to be read or written.
func TestParts(t *testing.T) {
	const end = 1 << 40
	for _, x := range []struct {
		at, length uint64
		may        bool
	}{
		{0, 0, false}, {0, 1, true}, {0, 4095, true}, {0, 4096, true}, {0, 4097, false}, {0, 1 << 32, false}, {0, 1<<32 + 1, false}, {0, 1 << 63, false},
		{0, 1<<63 + 1, false}, {0, math.MaxUint64, false}, {1, 1, true}, {77, 9, true}, {end - 1, 1, true}, {end - 1, 2, false}, {end, 1, false}, {end, 0, false},
		{end - 4096, 4096, true}, {end - 4095, 4095, true}, {end - 4095, 4096, false}, {end - 4096, 4097, false}, {end + 1, 1, false}, {end - 2, 1, true},
		{1 << 63, 1, false}, {math.MaxUint64, 1, false}, {math.MaxUint64, 2, false}, {math.MaxUint64 - 4095, 4096, false}, {math.MaxUint64 - 4094, 4096, false},
		{math.MaxUint64 - 8, 17, false}, {1, math.MaxUint64, false}, {2, math.MaxUint64, false}, {4096, math.MaxUint64 - 4094, false}, {1 << 63, 1 << 63, false},
		{1 << 63, 1<<63 + 1, false},
	} {
		for flags := range uint64(4) {
			r, g, l := laid(t, 0, 2)
			l.lay(g, 0, [4]uint64{x.at, x.length, flags, 1})
			l.lay(g, 1, [4]uint64{5, 6, flags &^ 1, 99})
			l.offer(g, 0, 0)
			write := flags&2 != 0
			want := Chain{Parts: []Part{{x.at, int(x.length), write}}}
			chain := []int{0}
			if flags&1 != 0 {
				want.Parts = append(want.Parts, Part{5, 6, write})
				chain = []int{0, 1}
			}
			if x.may {
				next(t, r, g, want)
				wantAsked(t, "Next", g, l.reads(g, 0, chain...)...)
				continue
			}
			nextNone(t, r, g, api.ErrRing)
			wantWithin(t, g, l)
			wantBroken(t, r, g, 0, 0)
		}
	}
}

// A flag beyond the two.
func TestFlags(t *testing.T) {
	for bit := 2; bit < 64; bit++ {
		for low := range uint64(4) {
			for place := range 2 {
				r, g, l := laid(t, 0, 4)
				l.lay(g, 3, [4]uint64{0, 1, 1, 2})
				l.lay(g, 2, [4]uint64{0, 1, 0, 0})
				l.offer(g, 0, 3)
				four := [4]uint64{0, 1, 1<<bit | low, 1}
				l.lay(g, 3-place, four)
				nextNone(t, r, g, api.ErrRing)
				wantBroken(t, r, g, 0, 0)
			}
		}
	}
}

// wantWithin looks whether what was read lies in the ring, each number once, and nothing else was asked for.
func wantWithin(t *testing.T, g *guest, l layout) {
	t.Helper()
	seen := map[uint64]int{}
	for _, a := range g.asked {
		seen[a.at]++
		if a.kind != loads || a.width != 8 || a.at < l.at || a.at > l.end()-8 || seen[a.at] > 1 {
			t.Errorf("of a ring of %d at %d: %+v, asked for %d times", l.n, l.at, a, seen[a.at])
		}
	}
}

// Chains of one part up to n, in several orders.
func TestLengths(t *testing.T) {
	for _, n := range sizes {
		for parts := 1; parts <= n; parts++ {
			for _, step := range []int{1, 3, n - 1} {
				r, g, l := laid(t, 256, n)
				want, order := Chain{Head: 5 & (n - 1)}, []int{}
				for k := range parts {
					number := (5 + k*(step|1)) & (n - 1)
					flags, part := uint64(1), Part{At: uint64(1000 * k), Len: 4096 - k}
					if 2*k >= n {
						flags, part.Write = 3, true
					}
					l.lay(g, number, [4]uint64{part.At, uint64(part.Len), flags, uint64(number+step|1) & uint64(n-1)})
					want.Parts, order = append(want.Parts, part), append(order, number)
				}
				link(g, l, order)
				last := l.descriptor(order[parts-1])
				g.write(last+16, g.numbers[last+16]&^1)
				l.offer(g, 0, uint64(order[0]))
				next(t, r, g, want)
				wantAsked(t, "Next", g, l.reads(g, 0, order...)...)
				nextNone(t, r, g, api.OK)
			}
		}
	}
}

// link lets each descriptor of a chain follow on the one before it.
func link(g *guest, l layout, order []int) {
	for k := range len(order) - 1 {
		g.write(l.descriptor(order[k])+24, uint64(order[k+1]))
	}
}

// A chain that leads back onto any of its descriptors, or beyond the ring, breaks it.
func TestLoops(t *testing.T) {
	for _, n := range sizes {
		for parts := 1; parts <= n; parts++ {
			order := []int{}
			for k := range parts {
				order = append(order, (k*3+1)&(n-1))
			}
			wrong := []uint64{uint64(n), uint64(n) + 1, 64, 1 << 32, 1 << 59, 1 << 63, math.MaxUint64}
			for _, number := range order {
				wrong = append(wrong, uint64(number))
			}
			for _, onto := range wrong {
				r, g, l := laid(t, 0, n)
				for _, number := range order {
					g.write(l.descriptor(number)+16, 1)
				}
				link(g, l, order)
				g.write(l.descriptor(order[parts-1])+24, onto)
				l.offer(g, 0, uint64(order[0]))
				nextNone(t, r, g, api.ErrRing)
				wantAsked(t, "Next of a chain without an end", g, l.reads(g, 0, order...)...)
				wantBroken(t, r, g, 0, 0)
			}
		}
	}
}

// The number of a next one tells nothing where none follows.
func TestNextOfTheLast(t *testing.T) {
	for _, onto := range []uint64{0, 1, 2, 3, 4, 1 << 63, math.MaxUint64} {
		for _, flags := range []uint64{0, 2} {
			r, g, l := laid(t, 0, 4)
			l.lay(g, 1, [4]uint64{9, 9, flags, onto})
			l.offer(g, 0, 1)
			next(t, r, g, Chain{Head: 1, Parts: []Part{{9, 9, flags == 2}}})
			wantAsked(t, "Next", g, l.reads(g, 0, 1)...)
		}
	}
}

// No part to be read stands behind one that is written: every order of four of them.
func TestReadsAheadOfWrites(t *testing.T) {
	for parts := 1; parts <= 4; parts++ {
		for kinds := range 1 << parts {
			r, g, l := laid(t, 0, 4)
			may, written := true, false
			want := Chain{Head: 0}
			for k := range parts {
				write := kinds>>k&1 != 0
				may = may && (write || !written)
				written = written || write
				flags := uint64(1)
				if write {
					flags = 3
				}
				if k == parts-1 {
					flags--
				}
				l.lay(g, k, [4]uint64{uint64(k), 1, flags, uint64(k) + 1})
				want.Parts = append(want.Parts, Part{uint64(k), 1, write})
			}
			l.offer(g, 0, 0)
			if may {
				next(t, r, g, want)
				continue
			}
			nextNone(t, r, g, api.ErrRing)
			wantWithin(t, g, l)
			wantBroken(t, r, g, 0, 0)
		}
	}
}

// errnos are errors of a guest's.
var errnos = []api.Errno{api.ErrNil, api.ErrArg, api.ErrAlign, api.ErrBound, api.ErrFault, api.ErrState, api.ErrRing, -1, 1000}

// A guest that refuses at each of the reads.
func TestRefusedReads(t *testing.T) {
	for _, e := range errnos {
		for at := range 15 {
			r, g, l := laid(t, 128, 4)
			for k := range uint64(3) {
				l.offer(g, k, k)
			}
			l.lay(g, 1, [4]uint64{0, 1, 1, 3})
			l.lay(g, 3, [4]uint64{1, 1, 3, 2})
			l.lay(g, 2, [4]uint64{2, 1, 2, 0})
			next(t, r, g, plainChain(0))
			push(t, r, g, 0, 0)
			g.asked = nil
			g.refuses = func(asked int) api.Errno {
				if asked == at {
					return e
				}
				return api.OK
			}
			whole := l.reads(g, 1, 1, 3, 2)
			if at == len(whole) {
				next(t, r, g, Chain{1, []Part{{0, 1, false}, {1, 1, true}, {2, 1, true}}})
				wantAsked(t, "Next", g, whole...)
				continue
			}
			nextNone(t, r, g, api.ErrRing)
			wantAsked(t, "Next that is refused", g, whole[:at+1]...)
			wantBroken(t, r, g, 1, 1)
		}
	}
}

// What a guest tells beside an error is nothing: neither that nothing is offered.
func TestRefusedCount(t *testing.T) {
	r, g, l := laid(t, 0, 1)
	g.refuses = func(int) api.Errno { return api.ErrBound }
	nextNone(t, r, g, api.ErrRing)
	wantAsked(t, "Next", g, load(l.offered(), 0))
	wantBroken(t, r, g, 0, 0)
}

// The memory itself refuses what lies beyond it.
func TestBeyondTheMemory(t *testing.T) {
	m, _ := mem.New(1)
	for _, x := range []struct {
		at     uint64
		n      int
		worked int // how far the ring lies in the memory
	}{
		{256 - 32, 1, 0},
		{256 - 32 - 8, 1, 1},
		{256 - 32 - 16, 1, 2},
		{256 - 32 - 8 - 8 - 8 - 16, 1, 3},
		{1 << 40, 1, 0},
	} {
		r, l := fresh(t, x.at, x.n), layout{x.at, x.n}
		m.Clear(0)
		m.Store(l.descriptor(0)+8, 8, 1)
		m.Store(l.offered(), 8, 1)
		if x.worked < 2 {
			nextNone(t, r, m, api.ErrRing)
			wantTold(t, r, 0, 0, true)
			continue
		}
		next(t, r, m, Chain{Head: 0, Parts: []Part{{Len: 1}}})
		if x.worked < 3 {
			wantErrno(t, "Push beyond the memory", r.Push(m, 0, 0), api.ErrRing)
			wantTold(t, r, 1, 0, true)
			continue
		}
		push(t, r, m, 0, 0)
		wantTold(t, r, 1, 1, false)
	}
}

// P23.3

func TestPush(t *testing.T) {
	for _, n := range sizes {
		for _, head := range append(slices.Clone(edgeInts), n-1, n, n+1, -n) {
			for _, put := range edgeInts {
				r, g, l := laid(t, 512, n)
				l.offer(g, 0, 0)
				next(t, r, g, plainChain(0))
				g.asked = nil
				if head < 0 || head >= n || put < 0 {
					wantErrno(t, "Push", r.Push(g, head, put), api.ErrArg)
					wantAsked(t, "Push that may not be", g)
					wantTold(t, r, 1, 0, false)
					continue
				}
				push(t, r, g, head, put)
				wantAsked(t, "Push", g, store(l.pair(0), uint64(head)), store(l.pair(0)+8, uint64(put)), store(l.given(), 1))
				wantTold(t, r, 1, 1, false)
			}
		}
	}
}

// Only as many are given back as were taken.
func TestPushOfMore(t *testing.T) {
	for _, n := range sizes {
		r, g, l := laid(t, 0, n)
		wantErrno(t, "Push ahead of all", r.Push(g, 0, 0), api.ErrState)
		taken, given := 0, 0
		for round := range 12 {
			for range min(round, n) {
				number := taken & (n - 1)
				l.offer(g, uint64(taken), uint64(number))
				next(t, r, g, plainChain(number))
				taken++
			}
			g.asked = nil
			for given < taken-round%2 {
				push(t, r, g, given*3&(n-1), given)
				wantAsked(t, "Push", g, store(l.pair(uint64(given)), uint64(given*3&(n-1))), store(l.pair(uint64(given))+8, uint64(given)), store(l.given(), uint64(given+1)))
				given++
				wantTold(t, r, uint64(taken), uint64(given), false)
			}
			if given == taken {
				before := maps.Clone(g.numbers)
				wantErrno(t, "Push of one more than were taken", r.Push(g, 0, 0), api.ErrState)
				wantAsked(t, "Push of one more", g)
				if !maps.Equal(g.numbers, before) {
					t.Errorf("Push of one more changed the guest's memory")
				}
			}
			wantTold(t, r, uint64(taken), uint64(given), false)
		}
	}
}

// More may be taken than there are descriptors, ahead of the first that is given back; a head may be given back oftener than it was taken.
func TestPushOfAny(t *testing.T) {
	r, g, l := laid(t, 0, 2)
	for k := range uint64(7) {
		l.offer(g, k, 0)
		next(t, r, g, plainChain(0))
	}
	for k := range uint64(7) {
		push(t, r, g, 1, math.MaxInt)
		wantTold(t, r, 7, k+1, false)
	}
	wantErrno(t, "Push", r.Push(g, 1, 0), api.ErrState)
	wantNumbers(t, g, map[uint64]uint64{l.given(): 7, l.pair(0): 1, l.pair(0) + 8: math.MaxInt, l.pair(1): 1, l.pair(1) + 8: math.MaxInt})
}

func wantNumbers(t *testing.T, g *guest, want map[uint64]uint64) {
	t.Helper()
	for at, v := range want {
		if g.numbers[at] != v {
			t.Errorf("at %d stands %d; want %d", at, g.numbers[at], v)
		}
	}
}

// The count is what the host gave back, whatever the guest wrote there.
func TestPushOverwrites(t *testing.T) {
	r, g, l := laid(t, 0, 2)
	for k := range uint64(3) {
		l.offer(g, k, 1)
		next(t, r, g, plainChain(1))
		g.write(l.given(), 1000)
		g.write(l.pair(k), 55)
		g.write(l.pair(k)+8, 56)
		push(t, r, g, 0, int(k))
		wantNumbers(t, g, map[uint64]uint64{l.given(): k + 1, l.pair(k): 0, l.pair(k) + 8: k})
	}
}

// A guest that refuses at each of the writes.
func TestRefusedWrites(t *testing.T) {
	for _, e := range errnos {
		for at := range 4 {
			r, g, l := laid(t, 0, 2)
			for k := range uint64(3) {
				l.offer(g, k, k%2)
				next(t, r, g, plainChain(int(k%2)))
			}
			push(t, r, g, 0, 4)
			g.asked = nil
			g.refuses = func(asked int) api.Errno {
				if asked == at {
					return e
				}
				return api.OK
			}
			whole := []access{store(l.pair(1), 1), store(l.pair(1)+8, 9), store(l.given(), 2)}
			if at == len(whole) {
				push(t, r, g, 1, 9)
				wantAsked(t, "Push", g, whole...)
				continue
			}
			wantErrno(t, "Push that is refused", r.Push(g, 1, 9), api.ErrRing)
			wantAsked(t, "Push that is refused", g, whole[:at+1]...)
			wantNumbers(t, g, map[uint64]uint64{l.given(): 1})
			wantBroken(t, r, g, 3, 1)
		}
	}
}

// Two errors at once, in the chapter's order (DOC.md, rule 2).
func TestErrorsInOrder(t *testing.T) {
	r, g, l := laid(t, 0, 2)
	wantErrno(t, "Push of a head that may not be, of more than were taken", r.Push(g, 2, 0), api.ErrArg)
	wantErrno(t, "Push of a head below 0, of more than were taken", r.Push(g, -1, 0), api.ErrArg)
	wantErrno(t, "Push of less than nothing, of more than were taken", r.Push(g, 0, -1), api.ErrArg)
	wantErrno(t, "Push without a guest, of a head that may not be", r.Push(nil, 2, -1), api.ErrNil)
	wantErrno(t, "Push without a guest, of more than were taken", r.Push(nil, 0, 0), api.ErrNil)
	g.refuses = func(int) api.Errno { return api.ErrBound }
	wantErrno(t, "Push to a guest that refuses, of more than were taken", r.Push(g, 0, 0), api.ErrState)
	wantErrno(t, "Push to a guest that refuses, of a head that may not be", r.Push(g, 2, 0), api.ErrArg)
	wantTold(t, r, 0, 0, false)
	wantAsked(t, "an error", g)
	g.refuses = nil
	l.offer(g, 0, 9)
	nextNone(t, r, g, api.ErrRing)
	nextNone(t, r, nil, api.ErrNil)
	wantErrno(t, "Push into a broken ring, of a head that may not be", r.Push(g, 2, 0), api.ErrRing)
	wantErrno(t, "Push into a broken ring, of less than nothing", r.Push(g, 0, -1), api.ErrRing)
	wantErrno(t, "Push into a broken ring, of more than were taken", r.Push(g, 0, 0), api.ErrRing)
	wantErrno(t, "Push into a broken ring, without a guest", r.Push(nil, 2, -1), api.ErrNil)
	for _, at := range []uint64{1, 1<<40 + 8} {
		if r, e := New(at, 3); r != nil || e != api.ErrArg {
			t.Errorf("New(%d, 3) = %p, %d; want nil, 2", at, r, int(e))
		}
	}
}

// P23.4

// What was told stays as it was, whatever the guest writes; and what the caller writes there changes nothing of the ring.
func TestChainsStay(t *testing.T) {
	r, g, l := laid(t, 0, 4)
	l.lay(g, 1, [4]uint64{10, 11, 1, 2})
	l.lay(g, 2, [4]uint64{20, 21, 3, 0})
	l.lay(g, 0, [4]uint64{30, 31, 2, 0})
	for k := range uint64(3) {
		l.offer(g, k, 1)
	}
	want := Chain{Head: 1, Parts: []Part{{10, 11, false}, {20, 21, true}, {30, 31, true}}}
	told, _, _ := r.Next(g)
	again, _, _ := r.Next(g)
	numbers, before := maps.Clone(g.numbers), *r
	for at := l.at; at < l.end(); at += 8 {
		g.write(at, 77)
	}
	if !same(told, want) {
		t.Errorf("the guest's writes changed what was told: %+v", told)
	}
	g.numbers = numbers
	for i := range told.Parts[:cap(told.Parts)] {
		told.Parts[:cap(told.Parts)][i] = Part{1, 1, true}
	}
	_ = append(told.Parts[:1], Part{2, 2, true}, Part{3, 3, true})
	if *r != before || !same(again, want) {
		t.Errorf("the caller's writes changed the ring, or another chain: %+v, %+v", *r, again)
	}
	next(t, r, g, want)
	if !same(again, want) {
		t.Errorf("a later Next changed what was told: %+v", again)
	}
}

// A guest that writes while its ring is read: behind a descriptor's read, another one; what was read ahead of it counts.
func TestWritesMeanwhile(t *testing.T) {
	r, g, l := laid(t, 0, 4)
	l.lay(g, 0, [4]uint64{1, 1, 1, 1})
	l.lay(g, 1, [4]uint64{2, 2, 1, 2})
	l.lay(g, 2, [4]uint64{3, 3, 0, 0})
	l.offer(g, 0, 0)
	g.meanwhile = func(asked int) {
		switch asked {
		case 1: // the count was read
			g.write(l.offered(), 99)
		case 2: // and the head
			g.write(l.head(0), 99)
		case 6: // and the first one
			l.lay(g, 0, [4]uint64{0, 0, 8, 99})
			l.lay(g, 1, [4]uint64{4, 4, 3, 3})
		case 10:
			l.lay(g, 1, [4]uint64{5, 5, 0, 0})
			l.lay(g, 3, [4]uint64{6, 6, 2, 0})
		}
	}
	next(t, r, g, Chain{Head: 0, Parts: []Part{{1, 1, false}, {4, 4, true}, {6, 6, true}}})
	if len(g.asked) != 14 {
		t.Errorf("%d reads; want 14", len(g.asked))
	}
	wantTold(t, r, 1, 0, false)
}

// A guest that lets a chain lead back onto a descriptor, which it has made another one: that is a loop.
func TestLoopMeanwhile(t *testing.T) {
	for _, n := range sizes {
		r, g, l := laid(t, 0, n)
		l.lay(g, 0, [4]uint64{1, 1, 1, 0})
		l.offer(g, 0, 0)
		g.meanwhile = func(asked int) {
			if asked >= 6 {
				l.lay(g, 0, plain(0))
			}
		}
		nextNone(t, r, g, api.ErrRing)
		wantWithin(t, g, l)
		g.meanwhile = nil
		l.lay(g, 0, plain(0))
		wantBroken(t, r, g, 0, 0)
	}
}

// Several rounds past n chains: each one is taken once, in order, however many are offered at once.
func TestInOrder(t *testing.T) {
	for _, n := range sizes {
		for _, atOnce := range []int{1, 2, 3, n} {
			atOnce = min(atOnce, n)
			r, g, l := laid(t, 0, n)
			offered, taken := 0, 0
			for range 5*n/atOnce + 1 {
				for range atOnce {
					l.offer(g, uint64(offered), uint64(offered*7&(n-1)))
					offered++
				}
				for taken < offered {
					next(t, r, g, plainChain(taken*7&(n-1)))
					taken++
					wantTold(t, r, uint64(taken), uint64(taken-1), false)
					push(t, r, g, taken*7&(n-1), taken)
				}
				nextNone(t, r, g, api.OK)
			}
		}
	}
}
