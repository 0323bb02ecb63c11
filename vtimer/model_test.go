package vtimer

import (
	"cmp"
	"slices"
	"testing"

	"palisade/api"
)

// scatter gives numbers that follow no plain order, always the same ones.
type scatter uint64

func (s *scatter) next() uint64 {
	*s = *s*6364136223846793005 + 1442695040888963407
	return uint64(*s>>33) ^ uint64(*s)<<31
}

// from tells a number from low to high, both of them too.
func (s *scatter) from(low, high int) int {
	return low + int(s.next()%uint64(high-low+1))
}

// one is what the chapter says of a virtual processor.
type one struct {
	id     int
	base   uint64
	halted bool
	time   uint64 // while it is halted
	set    bool
	timer  uint64
}

// model is what the chapter says of all of them, written down plainly: a list that is kept sorted.
type model struct {
	all []one
}

// counted is a clock or a time as it counts.
func counted(n uint64) uint64 {
	if n > 1<<62 {
		return 1 << 62
	}
	return n
}

func (m *model) find(id int) *one {
	for i := range m.all {
		if m.all[i].id == id {
			return &m.all[i]
		}
	}
	return nil
}

func (o *one) now(clock uint64) uint64 {
	clock = counted(clock)
	if o.halted {
		return o.time
	}
	if clock < o.base {
		return 0
	}
	return clock - o.base
}

// counts tells whether Next and Due ask for its timer.
func (o *one) counts() bool { return o.set && !o.halted }

// What calls there are.
const (
	doBegin = iota
	doNow
	doSet
	doStop
	doHalt
	doGo
	doNext
	doDue
	doEnd
)

// call is a call with its arguments; when is a clock, or a time of Set.
type call struct {
	what, id int
	when     uint64
}

// answer is what any call answers.
type answer struct {
	e    api.Errno
	n    uint64
	ok   bool
	list []int
}

func (a answer) is(b answer) bool {
	return a.e == b.e && a.n == b.n && a.ok == b.ok && slices.Equal(a.list, b.list)
}

// ask does a call.
func (k call) ask(x *Timers) (r answer) {
	switch k.what {
	case doBegin:
		r.e = x.Begin(k.id, k.when)
	case doNow:
		r.n, r.ok = x.Now(k.id, k.when)
	case doSet:
		r.e = x.Set(k.id, k.when)
	case doStop:
		r.e = x.Stop(k.id)
	case doHalt:
		r.e = x.Halt(k.id, k.when)
	case doGo:
		r.e = x.Go(k.id, k.when)
	case doNext:
		r.n, r.ok = x.Next()
	case doDue:
		r.list = x.Due(k.when)
	case doEnd:
		r.e = x.End(k.id)
	}
	return r
}

// ask tells what the chapter says of a call.
func (m *model) ask(k call) answer {
	switch k.what {
	case doBegin:
		return answer{e: m.begin(k.id, k.when)}
	case doNext:
		return m.next()
	case doDue:
		return m.due(k.when)
	}
	o := m.find(k.id)
	switch {
	case k.what == doNow && o == nil:
		return answer{}
	case k.what == doNow:
		return answer{n: o.now(k.when), ok: true}
	case o == nil:
		return answer{e: api.ErrNone}
	}
	return answer{e: m.change(o, k)}
}

// change does a call of one who began.
func (m *model) change(o *one, k call) api.Errno {
	switch k.what {
	case doSet:
		o.set, o.timer = true, counted(k.when)
	case doStop:
		o.set = false
	case doHalt:
		if o.halted {
			return api.ErrState
		}
		o.time = o.now(k.when)
		o.halted = true
	case doGo:
		if !o.halted {
			return api.ErrState
		}
		o.base = 0
		if clock := counted(k.when); clock > o.time {
			o.base = clock - o.time
		}
		o.halted = false
	case doEnd:
		m.all = slices.DeleteFunc(m.all, func(other one) bool { return other.id == k.id })
	}
	return api.OK
}

func (m *model) begin(id int, clock uint64) api.Errno {
	if m.find(id) != nil {
		return api.ErrThere
	}
	if len(m.all) >= 64 {
		return api.ErrFull
	}
	m.all = append(m.all, one{id: id, base: counted(clock)})
	slices.SortFunc(m.all, func(a, b one) int { return cmp.Compare(a.id, b.id) })
	return api.OK
}

func (m *model) next() answer {
	var sums []uint64
	for _, o := range m.all {
		if o.counts() {
			sums = append(sums, counted(o.base+o.timer))
		}
	}
	if len(sums) == 0 {
		return answer{}
	}
	return answer{n: slices.Min(sums), ok: true}
}

func (m *model) due(clock uint64) (r answer) {
	for i := range m.all {
		if o := &m.all[i]; o.counts() && o.now(clock) >= o.timer {
			r.list = append(r.list, o.id)
			o.set = false
		}
	}
	return r
}

// wantAlike does a call on both, and holds the answers against each other.
func wantAlike(t *testing.T, x *Timers, m *model, k call) {
	t.Helper()
	if got, want := k.ask(x), m.ask(k); !got.is(want) {
		t.Errorf("%+v = %+v; want %+v", k, got, want)
	}
}

// wantSeen looks at all that is told without a change.
func wantSeen(t *testing.T, x *Timers, m *model) {
	t.Helper()
	wantAlike(t, x, m, call{what: doNext})
	for _, o := range m.all {
		for _, clock := range []uint64{0, o.base - 1, o.base, o.base + 1, o.base + 1000, 1 << 62, 1<<64 - 1} {
			wantAlike(t, x, m, call{doNow, o.id, clock})
		}
	}
}

// wantSame looks at all that is kept, by calls whose answers hang on it: who goes on and who is halted at which time, and in the end which timers are set for when.
func wantSame(t *testing.T, x *Timers, m *model) {
	t.Helper()
	wantSeen(t, x, m)
	for id := -2; id < 70; id++ {
		wantAlike(t, x, m, call{what: doNow, id: id})
	}
	ids := []int{}
	for _, o := range m.all {
		ids = append(ids, o.id)
	}
	for _, id := range ids {
		wantAlike(t, x, m, call{doBegin, id, 7})
		wantAlike(t, x, m, call{doGo, id, 1 << 61})
	}
	wantSeen(t, x, m)
	for {
		r := m.next()
		wantAlike(t, x, m, call{what: doNext})
		if !r.ok {
			break
		}
		wantAlike(t, x, m, call{what: doDue, when: r.n - 1})
		wantAlike(t, x, m, call{what: doDue, when: r.n})
		if r.n == 1<<62 { // a timer may lie behind the last clock
			break
		}
	}
	for _, id := range ids {
		wantAlike(t, x, m, call{what: doEnd, id: id})
		wantAlike(t, x, m, call{what: doNow, id: id})
		wantAlike(t, x, m, call{what: doNext})
	}
	if _, ok := x.Next(); ok || len(x.Due(1<<62)) != 0 {
		t.Error("a timer is set, though all have ended")
	}
}

// someClock tells a clock or a time: mostly near a clock that goes on, else any edge.
func someClock(s *scatter, near uint64) uint64 {
	switch s.from(0, 11) {
	case 0:
		return edgeTimes[s.from(0, len(edgeTimes)-1)]
	case 1:
		return near - uint64(s.from(0, 40))
	}
	return near + uint64(s.from(0, 40))
}

// someCall tells any call but Now and Next, of one of so many ids at a clock.
func someCall(s *scatter, ids int, clock uint64) call {
	id := s.from(-1, ids-2)
	switch s.from(0, 15) {
	case 0, 1:
		return call{doBegin, id, someClock(s, clock)}
	case 2, 3, 4, 5:
		return call{doSet, id, someClock(s, uint64(s.from(0, 2))*clock)}
	case 6:
		return call{what: doStop, id: id}
	case 7, 8, 9:
		return call{doHalt, id, someClock(s, clock)}
	case 10, 11, 12:
		return call{doGo, id, someClock(s, clock)}
	case 13, 14:
		return call{what: doDue, when: someClock(s, clock)}
	}
	if s.from(0, 2) > 0 {
		return call{what: doDue, when: clock}
	}
	return call{what: doEnd, id: id}
}

// P21.1 to P21.4 over fixed scatters of calls: of few ids, of as many as there may be, and of more, from the least clocks to the greatest.

func TestAgainstModel(t *testing.T) {
	for seed := range 48 {
		s, clock := scatter(seed), []uint64{0, 1000, 1<<62 - 3000, 1<<62 - 100}[seed/3%4]
		ids := []int{5, 64, 200}[seed%3]
		x, m := New(), &model{}
		for number := range 2500 {
			wantAlike(t, x, m, someCall(&s, ids, clock))
			if number%8 == 0 {
				wantSeen(t, x, m)
			}
			if t.Failed() {
				t.Fatalf("seed %d, call %d", seed, number)
			}
			clock += uint64(s.from(0, 3))
		}
		wantSame(t, x, m)
	}
}

// fewCalls are calls of two virtual processors, each of which may hang on the others.
var fewCalls = []call{
	{doBegin, 1, 10},
	{doBegin, 2, 30},
	{doSet, 1, 0},
	{doSet, 1, 15},
	{doSet, 2, 5},
	{doStop, 1, 0},
	{doHalt, 1, 20},
	{doHalt, 2, 5},
	{doGo, 1, 30},
	{doGo, 1, 4},
	{doGo, 2, 40},
	{doDue, 0, 9},
	{doDue, 0, 25},
	{doDue, 0, 35},
	{doEnd, 1, 0},
}

// Every order of some calls of a length, which begins with every shorter one.
func TestEveryOrder(t *testing.T) {
	const length = 4
	orders := 1
	for range length {
		orders *= len(fewCalls)
	}
	for order := range orders {
		x, m := New(), &model{}
		wantAlike(t, x, m, call{doBegin, 1, 10})
		wantAlike(t, x, m, call{doSet, 1, 12})
		rest := order
		for range length {
			wantAlike(t, x, m, fewCalls[rest%len(fewCalls)])
			rest /= len(fewCalls)
			wantAlike(t, x, m, call{what: doNext})
			for id := range 3 {
				wantAlike(t, x, m, call{doNow, id, 26})
			}
		}
		for _, clock := range []uint64{24, 25, 60} {
			wantAlike(t, x, m, call{what: doDue, when: clock})
		}
		if t.Failed() {
			t.Fatalf("order %d", order)
		}
	}
}

// P21.5

// lived is a virtual processor that is seen tick by tick: its time is how many ticks it was not halted.
type lived struct {
	time   uint64
	halted bool
	set    bool
	timer  uint64
}

// tick lets a tick go by for all, and tells whose timers came.
func tick(l []lived) []int {
	var due []int
	for id := range l {
		o := &l[id]
		if o.halted {
			continue
		}
		o.time++
		if o.set && o.time >= o.timer {
			due, o.set = append(due, id), false
		}
	}
	return due
}

func TestTickByTick(t *testing.T) {
	for seed := range 30 {
		s, clock := scatter(seed+100), uint64(seed*seed*1000)
		x, l := New(), make([]lived, 1+seed%7)
		for id := range l {
			begin(t, x, id, clock)
		}
		told := 0
		for range 4000 {
			id := s.from(0, len(l)-1)
			o := &l[id]
			switch s.from(0, 9) {
			case 0, 1:
				o.set, o.timer = true, o.time+uint64(s.from(0, 30))
				wantErrno(t, "Set", x.Set(id, o.timer), api.OK)
			case 2:
				o.set = false
				wantErrno(t, "Stop", x.Stop(id), api.OK)
			case 3, 4:
				if o.halted {
					goOn(t, x, id, clock)
				} else {
					halt(t, x, id, clock)
				}
				o.halted = !o.halted
			}
			clock++
			want := tick(l)
			told += len(want)
			wantDue(t, x, clock, want...)
			for id, o := range l {
				wantNow(t, x, id, clock, o.time)
			}
			if t.Failed() {
				t.Fatalf("seed %d, clock %d", seed, clock)
			}
		}
		if told < 40 {
			t.Errorf("seed %d: only %d were told", seed, told)
		}
	}
}

// On a clock that goes on Next tells the first one at which somebody is due, while that one is still to come.
func TestNextIsWhenDue(t *testing.T) {
	for seed := range 20 {
		s, clock, jumps := scatter(seed+200), uint64(0), 0
		x := New()
		for number := range 3000 {
			id := s.from(0, 9)
			switch s.from(0, 4) {
			case 0:
				x.Begin(id, clock)
			case 1, 2:
				if now, ok := x.Now(id, clock); ok {
					wantErrno(t, "Set", x.Set(id, now+uint64(s.from(1, 50))), api.OK)
				}
			case 3:
				if x.Halt(id, clock) == api.ErrState {
					goOn(t, x, id, clock)
				}
			}
			next, ok := x.Next()
			if !ok || number%5 > 0 {
				continue
			}
			if next > clock {
				wantDue(t, x, next-1)
				jumps++
			}
			if clock = max(clock, next); len(x.Due(clock)) == 0 {
				t.Fatalf("seed %d: nobody is due at %d, though Next told %d", seed, clock, next)
			}
		}
		if jumps < 30 {
			t.Errorf("seed %d: only %d jumps", seed, jumps)
		}
	}
}

// The same calls are answered alike, whatever others are asked between (DOC.md, rule 5).
func TestAnsweredAlike(t *testing.T) {
	a, b, other := New(), New(), New()
	s, noise := scatter(1), scatter(2)
	for clock := range uint64(20000) {
		k := someCall(&s, 40, clock)
		first := k.ask(a)
		for range noise.from(0, 3) {
			someCall(&noise, 40, clock).ask(other)
		}
		if second := k.ask(b); !first.is(second) {
			t.Fatalf("%+v = %+v, then %+v", k, first, second)
		}
	}
}
