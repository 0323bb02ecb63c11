package ring

import (
	"maps"
	"math"
	"testing"

	"palisade/api"
)

// scatter gives numbers that follow no plain order, always the same ones.
type scatter uint64

func (s *scatter) next() uint64 {
	*s = *s*6364136223846793005 + 1442695040888963407
	return uint64(*s>>33) ^ uint64(*s)<<31
}

// from tells a number from low to high, both of them too.
func (s *scatter) from(low, high int) int {
	return low + int(s.next()%uint64(high-low+1))
}

// model is what the chapter says of a ring, written down plainly, with a memory of its own.
type model struct {
	layout
	taken, given uint64
	broken       bool
	numbers      map[uint64]uint64
}

func newModel(l layout) *model { return &model{layout: l, numbers: map[uint64]uint64{}} }

func (m *model) write(at, v uint64) {
	m.numbers[at] = v
	if v == 0 {
		delete(m.numbers, at)
	}
}

// What is done: by the guest, and of the ring.
const (
	doWrite = iota
	doNext
	doPush
)

// call is what is done, with its arguments.
type call struct {
	what    int
	at, v   uint64 // of a write
	head, n int    // of a Push
}

// answer is what any call answers.
type answer struct {
	chain Chain
	ok    bool
	e     api.Errno
}

func (a answer) is(b answer) bool { return same(a.chain, b.chain) && a.ok == b.ok && a.e == b.e }

// ask does a call.
func (k call) ask(r *Ring, g *guest) (a answer) {
	switch k.what {
	case doWrite:
		g.write(k.at, k.v)
	case doNext:
		a.chain, a.ok, a.e = r.Next(g)
	case doPush:
		a.e = r.Push(g, k.head, k.n)
	}
	return a
}

// ask tells what the chapter says of a call.
func (m *model) ask(k call) answer {
	switch k.what {
	case doWrite:
		m.write(k.at, k.v)
	case doNext:
		return m.next()
	case doPush:
		return answer{e: m.push(k.head, k.n)}
	}
	return answer{}
}

func (m *model) next() answer {
	if m.broken {
		return answer{e: api.ErrRing}
	}
	count := m.numbers[m.offered()]
	if count == m.taken {
		return answer{}
	}
	for more := range uint64(m.n) {
		if count != m.taken+more+1 {
			continue
		}
		if parts, ok := m.chain(m.numbers[m.head(m.taken)]); ok {
			head := int(m.numbers[m.head(m.taken)])
			m.taken++
			return answer{Chain{head, parts}, true, api.OK}
		}
		break
	}
	m.broken = true
	return answer{e: api.ErrRing}
}

// chain tells the parts of a chain; false: it may not be: one that goes on behind n parts has no end, or too many.
func (m *model) chain(at uint64) (parts []Part, may bool) {
	for range m.n {
		if at >= uint64(m.n) {
			return nil, false
		}
		place := m.descriptor(int(at))
		length, flags := m.numbers[place+8], m.numbers[place+16]
		part := Part{m.numbers[place], int(length), flags == 2 || flags == 3}
		if length == 0 || length > 4096 || flags > 3 || part.At > 1<<40 || part.At+length > 1<<40 {
			return nil, false
		}
		for _, ahead := range parts {
			if ahead.Write && !part.Write {
				return nil, false
			}
		}
		parts = append(parts, part)
		if flags == 0 || flags == 2 {
			return parts, true
		}
		at = m.numbers[place+24]
	}
	return nil, false
}

func (m *model) push(head, n int) api.Errno {
	switch {
	case m.broken:
		return api.ErrRing
	case head < 0, head > m.n-1, n < 0:
		return api.ErrArg
	case m.given == m.taken:
		return api.ErrState
	}
	m.write(m.pair(m.given), uint64(head))
	m.write(m.pair(m.given)+8, uint64(n))
	m.given++
	m.write(m.layout.given(), m.given)
	return api.OK
}

// both are a ring with its guest, and the model of them.
type both struct {
	r *Ring
	g *guest
	m *model
}

func newBoth(t *testing.T, at uint64, n int) both {
	t.Helper()
	return both{fresh(t, at, n), newGuest(), newModel(layout{at, n})}
}

// wantAlike does a call on both, and holds the answers, and what is told behind it, against each other.
func (b both) wantAlike(t *testing.T, k call) (a answer) {
	t.Helper()
	b.g.asked = nil
	a, want := k.ask(b.r, b.g), b.m.ask(k)
	if !a.is(want) {
		t.Errorf("%+v = %+v; want %+v", k, a, want)
	}
	wantTold(t, b.r, b.m.taken, b.m.given, b.m.broken)
	if k.what == doNext {
		wantWithin(t, b.g, b.m.layout)
	}
	return a
}

// wantSame looks whether both memories are the same.
func (b both) wantSame(t *testing.T) {
	t.Helper()
	if !maps.Equal(b.g.numbers, b.m.numbers) {
		t.Errorf("the guest's memory is %v; want %v", b.g.numbers, b.m.numbers)
	}
}

// someNumber tells a number that is seldom a good one.
func someNumber(s *scatter) uint64 {
	return []uint64{0, 1, 2, 3, 4, 63, 64, 4096, 4097, 1<<40 - 1, 1 << 40, 1<<40 + 1, 1 << 63, math.MaxUint64 - 1, math.MaxUint64, s.next()}[s.from(0, 15)]
}

// someDescriptor tells four numbers of one that leads on to a later one mostly, if it leads on.
func someDescriptor(s *scatter, number, n int) [4]uint64 {
	four := [4]uint64{uint64(s.from(0, 1<<20)), uint64(s.from(1, 4096)), 0, uint64(s.from(0, n-1))}
	if number < n-1 {
		four[2], four[3] = uint64(s.from(0, 1)), uint64(s.from(number+1, n-1))
	}
	if number >= n/2 {
		four[2] |= 2
	}
	switch s.from(0, 399) {
	case 0:
		four[s.from(0, 3)] = someNumber(s)
	case 1:
		four[2] ^= 2
	case 2:
		four[2], four[3] = four[2]|1, uint64(s.from(0, n))
	case 3:
		four[0] = 1<<40 - four[1] + uint64(s.from(-1, 1))
	case 4:
		four[1] = uint64(s.from(4095, 4097))
	}
	return four
}

// someCalls tells calls that go together: a descriptor's numbers, a head and the count behind it, a Next, a Push.
func someCalls(s *scatter, m *model) (calls []call) {
	switch s.from(0, 9) {
	case 0, 1, 2:
		number := s.from(0, m.n-1)
		for i, v := range someDescriptor(s, number, m.n) {
			calls = append(calls, call{what: doWrite, at: m.descriptor(number) + 8*uint64(i), v: v})
		}
		return calls
	case 3, 4:
		return someOffer(s, m)
	case 5, 6, 7:
		return []call{{what: doNext}}
	case 8:
		if s.from(0, 5) == 0 {
			return []call{{what: doPush, head: edgeInts[s.from(0, len(edgeInts)-1)], n: edgeInts[s.from(0, len(edgeInts)-1)]}}
		}
		return []call{{what: doPush, head: s.from(0, m.n-1), n: s.from(0, 1<<20)}}
	}
	// what a guest writes where the host writes tells the host nothing
	return []call{{what: doWrite, at: m.layout.given() + 8*uint64(s.from(0, 2*m.n)), v: someNumber(s)}}
}

// someOffer offers one more mostly, if there is room.
func someOffer(s *scatter, m *model) []call {
	count, head := m.numbers[m.offered()], uint64(s.from(0, m.n-1))
	if s.from(0, 249) == 0 {
		return []call{{what: doWrite, at: m.offered(), v: m.taken + uint64(s.from(-1, 1)*m.n+s.from(-1, 1))}}
	}
	if s.from(0, 499) == 0 {
		head = someNumber(s)
	}
	if count-m.taken >= uint64(m.n) {
		return nil
	}
	return []call{{what: doWrite, at: m.head(count), v: head}, {what: doWrite, at: m.offered(), v: count + 1}}
}

// begin writes all descriptors.
func (b both) begin(t *testing.T, s *scatter) {
	t.Helper()
	for number := range b.m.n {
		for i, v := range someDescriptor(s, number, b.m.n) {
			b.wantAlike(t, call{what: doWrite, at: b.m.descriptor(number) + 8*uint64(i), v: v})
		}
	}
}

// P23.1 to P23.4 over fixed scatters of calls and writes.

func TestAgainstModel(t *testing.T) {
	chains, rounds := 0, uint64(0)
	for seed := range 400 {
		s := scatter(seed)
		n := sizes[seed%len(sizes)]
		b := newBoth(t, []uint64{0, 8, 1 << 20, 1 << 40}[seed%4], n)
		b.begin(t, &s)
		for number := 0; number < 1500 && !b.m.broken; number++ {
			for _, k := range someCalls(&s, b.m) {
				if a := b.wantAlike(t, k); a.ok {
					chains += len(a.chain.Parts)
				}
			}
			if number%16 == 0 {
				b.wantSame(t)
			}
			if t.Failed() {
				t.Fatalf("seed %d, call %d", seed, number)
			}
		}
		rounds = max(rounds, b.m.taken/uint64(n))
		for range 6 { // broken, or not
			for _, k := range someCalls(&s, b.m) {
				b.wantAlike(t, k)
			}
		}
		b.wantSame(t)
	}
	if chains < 20000 || rounds < 20 {
		t.Errorf("the calls are of little use: %d parts, %d rounds", chains, rounds)
	}
}

// fewCalls are calls of a ring of two at 0, each of which may hang on the others.
var fewCalls = []call{
	{what: doWrite, at: 64, v: 1},
	{what: doWrite, at: 64, v: 2},
	{what: doWrite, at: 64, v: 3},
	{what: doWrite, at: 72, v: 1},
	{what: doWrite, at: 80, v: 2},
	{what: doWrite, at: 16, v: 1},
	{what: doWrite, at: 24, v: 1},
	{what: doWrite, at: 48, v: 2},
	{what: doNext},
	{what: doPush, head: 0, n: 5},
	{what: doPush, head: 1, n: 0},
}

// Every order of some calls of a length, which begins with every shorter one.
func TestEveryOrder(t *testing.T) {
	const length = 5
	orders := 1
	for range length {
		orders *= len(fewCalls)
	}
	for _, begun := range [][]call{
		{{what: doWrite, at: 8, v: 1}, {what: doWrite, at: 40, v: 4096}},
		{{what: doWrite, at: 8, v: 7}, {what: doWrite, at: 40, v: 8}, {what: doWrite, at: 64, v: 1}, {what: doNext}},
	} {
		for order := range orders {
			b := newBoth(t, 0, 2)
			for _, k := range begun {
				b.wantAlike(t, k)
			}
			rest := order
			for range length {
				b.wantAlike(t, fewCalls[rest%len(fewCalls)])
				rest /= len(fewCalls)
			}
			b.wantAlike(t, call{what: doNext})
			b.wantSame(t)
			if t.Failed() {
				t.Fatalf("%+v, order %d", begun, order)
			}
		}
	}
}

// changes lets a guest write another descriptor now and then, which may lead back.
func (s *scatter) changes(g *guest, l layout) {
	if s.from(0, 3) != 0 {
		return
	}
	number := s.from(0, l.n-1)
	for i, v := range someDescriptor(s, number, l.n) {
		g.write(l.descriptor(number)+8*uint64(i), v)
	}
	if s.from(0, 3) == 0 {
		g.write(l.descriptor(number)+16, uint64(s.from(0, 3)))
		g.write(l.descriptor(number)+24, uint64(s.from(0, l.n-1)))
	}
}

// A guest that writes into its ring while it is read: Next ends, reads each number once at most, and answers what the numbers that it read make.
func TestWritesAtAnyRead(t *testing.T) {
	taken, broken := 0, 0
	for seed := range 3000 {
		s := scatter(seed + 5000)
		n := sizes[seed%len(sizes)]
		b := newBoth(t, 8, n)
		b.begin(t, &s)
		l := b.m.layout
		for k := range uint64(20) {
			l.offer(b.g, k, uint64(s.from(0, n-1)))
			b.g.asked = nil
			b.g.meanwhile = func(int) { s.changes(b.g, l) }
			got := call{what: doNext}.ask(b.r, b.g)
			wantWithin(t, b.g, l)
			clear(b.m.numbers)
			for _, a := range b.g.asked {
				b.m.write(a.at, a.v)
			}
			if want := b.m.next(); !got.is(want) {
				t.Fatalf("seed %d: Next read %v, and answers %+v; want %+v", seed, b.g.asked, got, want)
			}
			if !got.ok {
				broken++
				break
			}
			taken++
		}
	}
	if taken < 3000 || broken < 300 {
		t.Errorf("the guests' writes are of little use: %d were taken, %d broke", taken, broken)
	}
}

// A guest that refuses any access: what was told ahead of it counts, and nothing behind it.
func TestRefusalsAnywhere(t *testing.T) {
	for seed := range 2000 {
		s := scatter(seed + 9000)
		n := sizes[seed%len(sizes)]
		b := newBoth(t, 0, n)
		b.begin(t, &s)
		left := s.from(0, 40)
		b.g.refuses = func(int) api.Errno {
			left--
			if left < 0 {
				return errnos[seed%len(errnos)]
			}
			return api.OK
		}
		for range 60 {
			for _, k := range someCalls(&s, b.m) {
				taken, given, was := b.r.Told()
				a := k.ask(b.r, b.g)
				if left < 0 && !was && k.what != doWrite {
					if a.e != api.ErrRing || a.ok {
						t.Fatalf("seed %d: %+v of a guest that refuses = %+v", seed, k, a)
					}
					wantBroken(t, b.r, b.g, taken, given)
					break
				}
				if want := b.m.ask(k); !a.is(want) {
					t.Fatalf("seed %d: %+v = %+v; want %+v", seed, k, a, want)
				}
			}
			if left < 0 {
				break
			}
		}
	}
}

// DOC.md, rule 5: the same calls are answered alike, again and again.
func TestAnsweredAlike(t *testing.T) {
	row := func() (answers []answer) {
		s := scatter(4)
		b := newBoth(t, 0, 16)
		b.begin(t, &s)
		for range 600 {
			for _, k := range someCalls(&s, b.m) {
				answers = append(answers, k.ask(b.r, b.g))
				b.m.ask(k)
			}
		}
		return answers
	}
	first := row()
	for range 5 {
		for i, a := range row() {
			if !a.is(first[i]) {
				t.Fatalf("call %d = %+v; once %+v", i, a, first[i])
			}
		}
	}
}
