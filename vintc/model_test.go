package vintc

import (
	"cmp"
	"slices"
	"testing"

	"palisade/api"
)

// scatter gives numbers that follow no plain order, always the same ones.
type scatter uint64

func (s *scatter) next() uint64 {
	*s = *s*6364136223846793005 + 1442695040888963407
	return uint64(*s>>33) ^ uint64(*s)<<31
}

// from tells a number from low to high, both of them too.
func (s *scatter) from(low, high int) int {
	return low + int(s.next()%uint64(high-low+1))
}

// model is what the chapter says of a controller, written down plainly: maps, and all that may come in a list that is sorted.
type model struct {
	vcpus      int
	pending    map[int]bool
	taken      map[int]int // who has taken it, if somebody has
	priorities map[int]int
	enabled    map[[2]int]bool // by virtual processor and source
	thresholds map[int]int
	soft       map[int]bool
}

func newModel(vcpus int) *model {
	m := &model{vcpus, map[int]bool{}, map[int]int{}, map[int]int{}, map[[2]int]bool{}, map[int]int{}, map[int]bool{}}
	for source := 1; source <= 16; source++ {
		m.priorities[source] = 1
	}
	return m
}

// coming tells what may come to a virtual processor, the first ahead.
func (m *model) coming(vcpu int) []int {
	var l []int
	for source := 16; source >= 1; source-- {
		if _, is := m.taken[source]; !is && m.pending[source] && m.enabled[[2]int{vcpu, source}] && m.priorities[source] > m.thresholds[vcpu] {
			l = append(l, source)
		}
	}
	slices.SortFunc(l, func(a, b int) int {
		return cmp.Or(-cmp.Compare(m.priorities[a], m.priorities[b]), cmp.Compare(a, b))
	})
	return l
}

func (m *model) claim(vcpu int) int {
	l := m.coming(vcpu)
	if len(l) == 0 {
		return 0
	}
	m.pending[l[0]] = false
	m.taken[l[0]] = vcpu
	return l[0]
}

func (m *model) complete(vcpu, source int) api.Errno {
	if by, is := m.taken[source]; !is || by != vcpu {
		return api.ErrState
	}
	delete(m.taken, source)
	return api.OK
}

func (m *model) told(source int) (bool, int) {
	if by, is := m.taken[source]; is {
		return m.pending[source], by
	}
	return m.pending[source], -1
}

// What calls there are.
const (
	doRaise = iota
	doEnable
	doWeigh
	doBar
	doLine
	doClaim
	doComplete
	doPoke
	doSoft
	doTold
)

// call is a call with its arguments: a is the first one, b the second.
type call struct {
	what, a, b int
	on         bool
}

// answer is what any call answers.
type answer struct {
	e      api.Errno
	is     bool
	number int
}

// ask does a call.
func (k call) ask(c *Intc) (r answer) {
	switch k.what {
	case doRaise:
		r.e = c.Raise(k.a)
	case doEnable:
		r.e = c.Enable(k.a, k.b, k.on)
	case doWeigh:
		r.e = c.Weigh(k.a, k.b)
	case doBar:
		r.e = c.Bar(k.a, k.b)
	case doLine:
		r.is = c.Line(k.a)
	case doClaim:
		r.number, r.e = c.Claim(k.a)
	case doComplete:
		r.e = c.Complete(k.a, k.b)
	case doPoke:
		r.e = c.Poke(k.a)
	case doSoft:
		r.is = c.Soft(k.a)
	case doTold:
		r.is, r.number = c.Told(k.a)
	}
	return r
}

// fits tells whether a call's arguments may be.
func (m *model) fits(k call) bool {
	switch k.what {
	case doRaise, doTold:
		return isNumbered(k.a)
	case doEnable, doComplete:
		return isThere(m.vcpus, k.a) && isNumbered(k.b)
	case doWeigh:
		return isNumbered(k.a) && isPlain(k.b)
	case doBar:
		return isThere(m.vcpus, k.a) && isPlain(k.b)
	}
	return isThere(m.vcpus, k.a)
}

// refuse tells what a call answers whose arguments may not be.
func refuse(k call) answer {
	switch k.what {
	case doTold:
		return answer{number: -1}
	case doLine, doSoft:
		return answer{}
	}
	return answer{e: api.ErrArg}
}

// ask tells what the chapter says of a call.
func (m *model) ask(k call) (r answer) {
	if !m.fits(k) {
		return refuse(k)
	}
	switch k.what {
	case doRaise:
		m.pending[k.a] = true
	case doEnable:
		m.enabled[[2]int{k.a, k.b}] = k.on
	case doWeigh:
		m.priorities[k.a] = k.b
	case doBar:
		m.thresholds[k.a] = k.b
	case doLine:
		r.is = len(m.coming(k.a)) > 0
	case doClaim:
		r.number = m.claim(k.a)
	case doComplete:
		r.e = m.complete(k.a, k.b)
	case doPoke:
		m.soft[k.a] = true
	case doSoft:
		r.is = m.soft[k.a]
		m.soft[k.a] = false
	case doTold:
		r.is, r.number = m.told(k.a)
	}
	return r
}

// wantAlike does a call on both, and holds the answers against each other.
func wantAlike(t *testing.T, c *Intc, m *model, k call) {
	t.Helper()
	if got, want := k.ask(c), m.ask(k); got != want {
		t.Errorf("%+v = %+v; want %+v", k, got, want)
	}
}

// wantSeen looks at all that is told without a change.
func wantSeen(t *testing.T, c *Intc, m *model) {
	t.Helper()
	for vcpu := -1; vcpu <= m.vcpus; vcpu++ {
		wantAlike(t, c, m, call{what: doLine, a: vcpu})
	}
	for source := 0; source <= 17; source++ {
		wantAlike(t, c, m, call{what: doTold, a: source})
	}
}

// claimAll claims all that may come to each virtual processor, and completes it.
func claimAll(t *testing.T, c *Intc, m *model) {
	t.Helper()
	for vcpu := range m.vcpus {
		for range 17 {
			wantAlike(t, c, m, call{what: doClaim, a: vcpu})
		}
		wantSeen(t, c, m)
		for source := 1; source <= 16; source++ {
			wantAlike(t, c, m, call{what: doComplete, a: vcpu, b: source})
		}
	}
}

// raiseAll raises all sources, and claims them.
func raiseAll(t *testing.T, c *Intc, m *model) {
	t.Helper()
	for source := 1; source <= 16; source++ {
		wantAlike(t, c, m, call{what: doRaise, a: source})
	}
	claimAll(t, c, m)
}

// wantSame looks at all that is kept, by calls whose answers hang on it: soft lines, what is pending and taken, what is enabled and barred, and in the end what each source weighs.
func wantSame(t *testing.T, c *Intc, m *model) {
	t.Helper()
	wantSeen(t, c, m)
	for vcpu := range m.vcpus {
		wantAlike(t, c, m, call{what: doSoft, a: vcpu})
	}
	claimAll(t, c, m)
	raiseAll(t, c, m)
	for threshold := 7; threshold >= 0; threshold-- {
		for vcpu := range m.vcpus {
			wantAlike(t, c, m, call{what: doBar, a: vcpu, b: threshold})
		}
		raiseAll(t, c, m)
	}
}

// someCall tells any call but Line and Told, mostly one whose arguments may be.
func someCall(s *scatter, vcpus int) call {
	vcpu, source, weight := s.from(0, vcpus-1), s.from(1, 16), s.from(0, 7)
	if s.from(0, 15) == 0 {
		vcpu = s.from(-1, vcpus)
	}
	if s.from(0, 15) == 0 {
		source = s.from(-1, 18)
	}
	if s.from(0, 15) == 0 {
		weight = s.from(-2, 9)
	}
	switch s.from(0, 15) {
	case 0, 1, 2, 3:
		return call{what: doRaise, a: source}
	case 4, 5:
		return call{what: doEnable, a: vcpu, b: source, on: s.from(0, 2) > 0}
	case 6:
		return call{what: doWeigh, a: source, b: weight}
	case 7:
		return call{what: doBar, a: vcpu, b: weight / 2}
	case 8, 9, 10:
		return call{what: doClaim, a: vcpu}
	case 11, 12, 13:
		return call{what: doComplete, a: vcpu, b: source}
	case 14:
		return call{what: doPoke, a: vcpu}
	}
	return call{what: doSoft, a: vcpu}
}

// P20.1 to P20.4 over fixed scatters of calls.

func TestAgainstModel(t *testing.T) {
	for seed := range 40 {
		s := scatter(seed)
		vcpus := 1 + seed%4
		c, m := made(t, vcpus), newModel(vcpus)
		for number := range 1500 {
			wantAlike(t, c, m, someCall(&s, vcpus))
			wantSeen(t, c, m)
			if t.Failed() {
				t.Fatalf("seed %d, call %d", seed, number)
			}
		}
		wantSame(t, c, m)
	}
}

// fewCalls are calls of two virtual processors about two sources, each of which may hang on the others.
var fewCalls = []call{
	{what: doRaise, a: 3},
	{what: doRaise, a: 8},
	{what: doClaim, a: 0},
	{what: doClaim, a: 1},
	{what: doComplete, a: 0, b: 3},
	{what: doComplete, a: 1, b: 3},
	{what: doComplete, a: 0, b: 8},
	{what: doWeigh, a: 8, b: 2},
	{what: doWeigh, a: 3, b: 0},
	{what: doBar, a: 0, b: 1},
	{what: doBar, a: 0, b: 0},
	{what: doEnable, a: 1, b: 3},
	{what: doEnable, a: 0, b: 3, on: true},
	{what: doEnable, a: 0, b: 8, on: true},
	{what: doEnable, a: 1, b: 3, on: true},
}

// Every order of some calls of a length, which begins with every shorter one.
func TestEveryOrder(t *testing.T) {
	const length = 4
	orders := 1
	for range length {
		orders *= len(fewCalls)
	}
	for order := range orders {
		c, m := made(t, 2), newModel(2)
		for _, k := range []call{{what: doEnable, a: 0, b: 8, on: true}, {what: doEnable, a: 1, b: 3, on: true}, {what: doRaise, a: 3}} {
			wantAlike(t, c, m, k)
		}
		rest := order
		for range length {
			wantAlike(t, c, m, fewCalls[rest%len(fewCalls)])
			rest /= len(fewCalls)
			for n := range 2 {
				wantAlike(t, c, m, call{what: doLine, a: n})
				wantAlike(t, c, m, call{what: doTold, a: 3 + 5*n})
			}
		}
		if t.Failed() {
			t.Fatalf("order %d", order)
		}
	}
}

// P20.4

// heard is what was said of one source, and what claims told of it.
type heard struct {
	raises, claims int
	since          bool // it was raised, and not claimed since
	by             int  // who claimed it, and did not complete it; below 0: nobody
}

func TestEachRaiseOnce(t *testing.T) {
	for seed := range 20 {
		s := scatter(seed + 100)
		vcpus := 1 + seed%4
		c := open(t, vcpus)
		var log [17]heard
		for source := range log {
			log[source].by = -1
		}
		for number := range 5000 {
			vcpu, source := s.from(0, vcpus-1), s.from(1, 16)
			l := &log[source]
			switch s.from(0, 5) {
			case 0, 1:
				raise(t, c, source)
				l.raises++
				l.since = true
			case 2, 3:
				want := api.ErrState
				if l.by == vcpu {
					want = api.OK
					l.by = -1
				}
				wantErrno(t, "Complete", c.Complete(vcpu, source), want)
			default:
				got, e := c.Claim(vcpu)
				if l = &log[got]; got == 0 && e == api.OK {
					break
				}
				if !l.since || l.by != -1 || e != api.OK {
					t.Errorf("Claim(%d) = %d, %d: %+v", vcpu, got, int(e), *l)
				}
				l.claims++
				l.since, l.by = false, vcpu
			}
			if t.Failed() {
				t.Fatalf("seed %d, call %d", seed, number)
			}
		}
		wantAllHeard(t, c, log)
	}
}

// wantAllHeard completes what is taken: then all that was raised comes, and nothing else.
func wantAllHeard(t *testing.T, c *Intc, log [17]heard) {
	t.Helper()
	var left []int
	for source := 1; source <= 16; source++ {
		l := log[source]
		if l.by != -1 {
			complete(t, c, l.by, source)
		}
		if l.since {
			left = append(left, source)
		}
		if l.claims > l.raises || l.claims < 5 {
			t.Errorf("source %d was raised %d times, and claimed %d times", source, l.raises, l.claims)
		}
	}
	wantClaims(t, c, 0, append(left, 0)...)
}

// What is claimed may come: it was pending, taken by nobody, enabled, above the threshold, and Told says whose it is behind it.
func TestClaimedMayCome(t *testing.T) {
	for seed := range 20 {
		s := scatter(seed + 200)
		vcpus := 1 + seed%4
		c, claims := made(t, vcpus), 0
		var enabled [4][17]bool
		var priorities [17]int
		for source := range priorities {
			priorities[source] = 1
		}
		var thresholds [4]int
		for range 4000 {
			k := someCall(&s, vcpus)
			if k.what != doClaim || !isThere(vcpus, k.a) {
				switch r := k.ask(c); {
				case r.e != api.OK:
				case k.what == doEnable:
					enabled[k.a][k.b] = k.on
				case k.what == doWeigh:
					priorities[k.a] = k.b
				case k.what == doBar:
					thresholds[k.a] = k.b
				}
				continue
			}
			before, line := *c, c.Line(k.a)
			got, e := c.Claim(k.a)
			if e != api.OK || line != (got != 0) {
				t.Fatalf("Line(%d) = %v, then Claim = %d, %d", k.a, line, got, int(e))
			}
			if got == 0 {
				continue
			}
			claims++
			if pending, by := before.Told(got); !pending || by != -1 || !enabled[k.a][got] || priorities[got] <= thresholds[k.a] {
				t.Errorf("Claim(%d) = %d, which may not come", k.a, got)
			}
			wantTold(t, c, got, false, k.a)
		}
		if claims < 50 {
			t.Errorf("seed %d: only %d claims", seed, claims)
		}
	}
}

// The same calls are answered alike, whatever another controller is asked between (DOC.md, rule 5).
func TestAnsweredAlike(t *testing.T) {
	for vcpus := 1; vcpus <= 4; vcpus++ {
		a, b, other := made(t, vcpus), made(t, vcpus), made(t, 5-vcpus)
		s, noise := scatter(vcpus), scatter(vcpus+1)
		for range 3000 {
			k := someCall(&s, vcpus)
			first := k.ask(a)
			for range noise.from(0, 3) {
				someCall(&noise, 5-vcpus).ask(other)
			}
			if second := k.ask(b); first != second {
				t.Fatalf("%+v = %+v, then %+v", k, first, second)
			}
		}
	}
}
