package lines

import (
	"math"
	"slices"
	"testing"

	"palisade/api"
)

// edgeInts are numbers at both ends of int, and around the edges within.
var edgeInts = []int{math.MinInt, math.MinInt + 1, math.MinInt32, -8, -2, -1, 0, 1, 2, 7, 8, 9, 15, 16, 17, math.MaxInt32, 1 << 32, 1<<32 + 1, 1 << 62, math.MaxInt - 1, math.MaxInt}

// edgeTimes are numbers at both ends of uint64, and around the edges within.
var edgeTimes = []uint64{0, 1, 2, 9, 10, 11, 1<<32 - 1, 1 << 32, 1<<62 - 2, 1<<62 - 1, 1 << 62, 1<<62 + 1, 1<<63 - 1, 1 << 63, 1<<63 + 1, 1<<64 - 1<<62 - 1, 1<<64 - 1<<62, 1<<64 - 1<<62 + 1, math.MaxUint64 - 1, math.MaxUint64}

const greatest = 1 << 62

func newLines(t *testing.T, cores int) *Lines {
	t.Helper()
	l, e := New(cores)
	if l == nil || e != api.OK {
		t.Fatalf("New(%d) = %v, %d", cores, l, int(e))
	}
	return l
}

func wantErrno(t *testing.T, what string, e, want api.Errno) {
	t.Helper()
	if e != want {
		t.Errorf("%s = %d; want %d", what, int(e), int(want))
	}
}

func wantTake(t *testing.T, l *Lines, core, event int) {
	t.Helper()
	if v, ok := l.Take(core); v != event || !ok {
		t.Errorf("Take(%d) = %d, %v; want %d, true", core, v, ok, event)
	}
}

func wantNothing(t *testing.T, l *Lines, core int) {
	t.Helper()
	if v, ok := l.Take(core); v != 0 || ok {
		t.Errorf("Take(%d) = %d, %v; want 0, false", core, v, ok)
	}
}

func wantTick(t *testing.T, l *Lines, core int, n uint64, due bool) {
	t.Helper()
	if d, e := l.Tick(core, n); d != due || e != api.OK {
		t.Errorf("Tick(%d, %d) = %v, %d; want %v, 0", core, n, d, int(e), due)
	}
}

func wantTimes(t *testing.T, l *Lines, core int, now, at uint64, isSet bool) {
	t.Helper()
	if v := l.Now(core); v != now {
		t.Errorf("Now(%d) = %d; want %d", core, v, now)
	}
	if v, ok := l.Armed(core); v != at || ok != isSet {
		t.Errorf("Armed(%d) = %d, %v; want %d, %v", core, v, ok, at, isSet)
	}
}

func wantWaiting(t *testing.T, l *Lines, core, want int) {
	t.Helper()
	if n := l.Waiting(core); n != want {
		t.Errorf("Waiting(%d) = %d; want %d", core, n, want)
	}
}

func TestExample(t *testing.T) {
	l := newLines(t, 2)
	wantErrno(t, "Send(1, 5)", l.Send(1, 5), api.OK)
	wantErrno(t, "Send(1, 6)", l.Send(1, 6), api.OK)
	wantTake(t, l, 1, 5)
	wantNothing(t, l, 0)
	wantErrno(t, "Set(0, 10)", l.Set(0, 10), api.OK)
	wantTick(t, l, 0, 9, false)
	wantTick(t, l, 0, 1, true)
	wantTick(t, l, 0, 1, false)
	wantTimes(t, l, 0, 11, 0, false)
}

func TestNew(t *testing.T) {
	for _, cores := range append([]int{3, 4, 5, 6, 10, 64}, edgeInts...) {
		l, e := New(cores)
		if cores < 1 || cores > api.MaxCores {
			if l != nil || e != api.ErrArg {
				t.Errorf("New(%d) = %v, %d; want nil, %d", cores, l, int(e), int(api.ErrArg))
			}
			continue
		}
		if l == nil || e != api.OK {
			t.Errorf("New(%d) = %v, %d", cores, l, int(e))
			continue
		}
		for core := range cores {
			wantWaiting(t, l, core, 0)
			wantNothing(t, l, core)
			wantTimes(t, l, core, 0, 0, false)
			wantTick(t, l, core, 0, false)
		}
		wantErrno(t, "Send to the number of cores", l.Send(cores, 1), api.ErrArg)
		wantErrno(t, "Send to the last", l.Send(cores-1, 1), api.OK)
	}
}

func TestTwoAreApart(t *testing.T) {
	a, b := newLines(t, 1), newLines(t, 1)
	a.Send(0, 3)
	a.Set(0, 5)
	a.Tick(0, 2)
	wantWaiting(t, b, 0, 0)
	wantTimes(t, b, 0, 0, 0, false)
	wantTimes(t, a, 0, 2, 5, true)
}

func TestSendAndTake(t *testing.T) {
	for cores := 1; cores <= api.MaxCores; cores++ {
		l := newLines(t, cores)
		for core := range cores {
			for i := range 16 {
				wantErrno(t, "Send", l.Send(core, 100*core-i), api.OK)
				wantWaiting(t, l, core, i+1)
			}
			for range 3 {
				wantErrno(t, "Send of one more", l.Send(core, 7777), api.ErrFull)
				wantWaiting(t, l, core, 16)
			}
		}
		for core := range cores {
			wantTake(t, l, core, 100*core)
			wantWaiting(t, l, core, 15)
			wantErrno(t, "Send behind a Take", l.Send(core, 5), api.OK)
			wantErrno(t, "Send of one more again", l.Send(core, 6), api.ErrFull)
			for i := 1; i < 16; i++ {
				wantTake(t, l, core, 100*core-i)
			}
			wantTake(t, l, core, 5)
			for range 3 {
				wantNothing(t, l, core)
				wantWaiting(t, l, core, 0)
			}
		}
	}
}

func TestEveryEvent(t *testing.T) {
	l := newLines(t, 3)
	for _, event := range edgeInts {
		wantErrno(t, "Send", l.Send(2, event), api.OK)
		wantErrno(t, "Send again", l.Send(2, event), api.OK)
		wantWaiting(t, l, 2, 2)
		wantTake(t, l, 2, event)
		wantTake(t, l, 2, event)
		wantNothing(t, l, 2)
	}
}

func TestNoSuchCore(t *testing.T) {
	l := newLines(t, 3)
	for core := range 3 {
		l.Send(core, 40+core)
		l.Set(core, uint64(50+core))
		l.Tick(core, uint64(1+core))
	}
	for _, core := range edgeInts {
		if core >= 0 && core < 3 {
			continue
		}
		for _, v := range edgeInts {
			wantErrno(t, "Send to no core", l.Send(core, v), api.ErrArg)
		}
		for _, v := range edgeTimes {
			wantErrno(t, "Set of no core", l.Set(core, v), api.ErrArg)
			if due, e := l.Tick(core, v); due || e != api.ErrArg {
				t.Errorf("Tick(%d, %d) = %v, %d", core, v, due, int(e))
			}
		}
		wantNothing(t, l, core)
		wantWaiting(t, l, core, 0)
		wantTimes(t, l, core, 0, 0, false)
	}
	for core := range 3 {
		wantTimes(t, l, core, uint64(1+core), uint64(50+core), true)
		wantWaiting(t, l, core, 1)
		wantTake(t, l, core, 40+core)
	}
}

func TestNoLines(t *testing.T) {
	var none *Lines
	for _, l := range []*Lines{none, {}, new(Lines)} {
		for _, core := range edgeInts {
			wantErrno(t, "Send", l.Send(core, 1), api.ErrNil)
			wantNothing(t, l, core)
			wantWaiting(t, l, core, 0)
			for _, v := range edgeTimes {
				wantErrno(t, "Set", l.Set(core, v), api.ErrNil)
				if due, e := l.Tick(core, v); due || e != api.ErrNil {
					t.Errorf("Tick(%d, %d) = %v, %d; want false, 1", core, v, due, int(e))
				}
			}
			wantTimes(t, l, core, 0, 0, false)
		}
	}
}

func TestSetAgain(t *testing.T) {
	l := newLines(t, 2)
	for _, at := range edgeTimes {
		wantErrno(t, "Set", l.Set(1, at), api.OK)
		wantTimes(t, l, 1, 0, at, true)
		wantTimes(t, l, 0, 0, 0, false)
	}
	wantErrno(t, "Set", l.Set(1, 4), api.OK)
	wantErrno(t, "Set", l.Set(1, 6), api.OK)
	wantTick(t, l, 1, 5, false)
	wantTimes(t, l, 1, 5, 6, true)
	wantTick(t, l, 1, 1, true)
	wantTick(t, l, 1, 100, false)
}

func TestTimerIsToldOnce(t *testing.T) {
	for _, at := range []uint64{0, 1, 9, 10, 11, 1 << 20} {
		for _, n := range []uint64{0, 1, 5, 10, 12, 1 << 21} {
			l := newLines(t, 1)
			l.Tick(0, 10)
			l.Set(0, at)
			wantTimes(t, l, 0, 10, at, true)
			due := at <= 10+n
			wantTick(t, l, 0, n, due)
			if !due {
				wantTimes(t, l, 0, 10+n, at, true)
				wantTick(t, l, 0, at-10-n-1, false)
				wantTick(t, l, 0, 0, false)
				wantTick(t, l, 0, 1, true)
			}
			wantTimes(t, l, 0, max(10+n, at), 0, false)
			for _, m := range []uint64{0, 1, 1 << 40} {
				wantTick(t, l, 0, m, false)
			}
			now := l.Now(0)
			wantErrno(t, "Set again", l.Set(0, now), api.OK)
			wantTimes(t, l, 0, now, now, true)
			wantTick(t, l, 0, 0, true)
			wantTick(t, l, 0, 0, false)
		}
	}
}

func TestClockStandsStill(t *testing.T) {
	for _, first := range edgeTimes {
		for _, second := range edgeTimes {
			l := newLines(t, 1)
			now := min(first, greatest)
			wantTick(t, l, 0, first, false)
			wantTimes(t, l, 0, now, 0, false)
			if second > greatest-now {
				now = greatest
			} else {
				now += second
			}
			wantTick(t, l, 0, second, false)
			wantTimes(t, l, 0, now, 0, false)
		}
	}
}

func TestTimersAtTheEnd(t *testing.T) {
	for _, at := range edgeTimes {
		l := newLines(t, 1)
		l.Set(0, at)
		wantTick(t, l, 0, greatest-1, at <= greatest-1)
		if at == greatest {
			wantTick(t, l, 0, math.MaxUint64, true)
		}
		for range 3 {
			wantTick(t, l, 0, math.MaxUint64, false)
			wantTick(t, l, 0, 0, false)
		}
		if at > greatest {
			wantTimes(t, l, 0, greatest, at, true)
		} else {
			wantTimes(t, l, 0, greatest, 0, false)
		}
		wantErrno(t, "Set at the end", l.Set(0, greatest), api.OK)
		wantTick(t, l, 0, 1, true)
		wantTimes(t, l, 0, greatest, 0, false)
	}
}

// scatter gives numbers that follow no plain order, always the same ones.
type scatter uint64

func (s *scatter) next() uint64 {
	*s = *s*6364136223846793005 + 1442695040888963407
	return uint64(*s>>33) ^ uint64(*s)<<31
}

// model is what the chapter says of a core, plainly.
type model struct {
	events  []int
	now, at uint64
	isSet   bool
}

func (m *model) tick(n uint64) bool {
	if n > greatest || m.now+n > greatest {
		m.now = greatest
	} else {
		m.now += n
	}
	due := m.isSet && m.at <= m.now
	if due {
		m.at, m.isSet = 0, false
	}
	return due
}

// same holds all cores against the model, so that a core that another's call had changed is found.
func same(t *testing.T, l *Lines, models []model) {
	t.Helper()
	for core := range models {
		wantWaiting(t, l, core, len(models[core].events))
		wantTimes(t, l, core, models[core].now, models[core].at, models[core].isSet)
	}
}

func TestAgainstModel(t *testing.T) {
	for cores := 1; cores <= api.MaxCores; cores++ {
		s := scatter(cores)
		l := newLines(t, cores)
		models := make([]model, cores)
		for range 4000 {
			core := int(s.next() % uint64(cores))
			m := &models[core]
			switch s.next() % 8 {
			case 0, 1, 2:
				event, want := int(s.next()), api.OK
				if len(m.events) == 16 {
					want = api.ErrFull
				} else {
					m.events = append(m.events, event)
				}
				wantErrno(t, "Send", l.Send(core, event), want)
			case 3, 4:
				if len(m.events) == 0 {
					wantNothing(t, l, core)
				} else {
					wantTake(t, l, core, m.events[0])
					m.events = m.events[1:]
				}
			case 5:
				m.at, m.isSet = m.now+s.next()%20, true
				wantErrno(t, "Set", l.Set(core, m.at), api.OK)
			default:
				n := s.next() % 12
				if s.next()%512 == 0 {
					n = edgeTimes[s.next()%uint64(len(edgeTimes))]
				}
				wantTick(t, l, core, n, m.tick(n))
			}
			same(t, l, models)
			if t.Failed() {
				return
			}
		}
	}
}

// TestEachOnce holds all that is taken against all that was sent.
func TestEachOnce(t *testing.T) {
	l := newLines(t, 2)
	s := scatter(9)
	var sent, taken [2][]int
	for i := range 3000 {
		core := int(s.next() % 2)
		if s.next()%2 == 0 {
			if l.Send(core, i) == api.OK {
				sent[core] = append(sent[core], i)
			}
		} else if event, ok := l.Take(core); ok {
			taken[core] = append(taken[core], event)
		}
	}
	for core := range 2 {
		for event, ok := l.Take(core); ok; event, ok = l.Take(core) {
			taken[core] = append(taken[core], event)
		}
		if !slices.Equal(sent[core], taken[core]) {
			t.Errorf("core %d: sent %v, taken %v", core, sent[core], taken[core])
		}
	}
}
