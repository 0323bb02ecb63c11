package ticket

import (
	"bytes"
	"slices"
	"testing"

	"palisade/api"
	"palisade/mem"
)

// scatter gives numbers that follow no plain order, always the same ones.
type scatter uint64

func (s *scatter) next() uint64 {
	*s = *s*6364136223846793005 + 1442695040888963407
	return uint64(*s>>33) ^ uint64(*s)<<31
}

// from tells a number from low to high, both of them too.
func (s *scatter) from(low, high int) int {
	return low + int(s.next()%uint64(high-low+1))
}

// queue is what P15.4 says of a lock that nobody else writes to, with no numbers at all: those with tickets that have not let go, the oldest ticket first.
type queue struct {
	states []int
	line   []int
}

// take, give and step tell what the call answers, and change the queue.
func (q *queue) take(core int) api.Errno {
	if q.states[core] != Idle {
		return api.ErrState
	}
	q.states[core] = Wants
	return api.OK
}

func (q *queue) give(core int) api.Errno {
	if q.states[core] != Holds {
		return api.ErrState
	}
	q.states[core] = Gives
	return api.OK
}

func (q *queue) step(core int) int {
	switch q.states[core] {
	case Wants:
		q.states[core] = Spins
		q.line = append(q.line, core)
	case Spins:
		if q.line[0] == core {
			q.states[core] = Holds
		}
	case Gives:
		q.states[core] = Idle
		q.line = q.line[1:]
	}
	return q.states[core]
}

// clone tells one that goes on by itself.
func (q *queue) clone() *queue {
	return &queue{slices.Clone(q.states), slices.Clone(q.line)}
}

// act does a call on both, and holds the answers against each other: 0 is Take, 1 is Give, all others are Step.
func act(t *testing.T, l *Lock, q *queue, core, call int) {
	t.Helper()
	switch call {
	case 0:
		wantErrno(t, "Take", l.Take(core), q.take(core))
	case 1:
		wantErrno(t, "Give", l.Give(core), q.give(core))
	default:
		wantStep(t, l, core, q.step(core))
	}
}

// wantTurns looks at all cores: their states, at most one of which holds or is about to let go, and their tickets, each one more than the one before it.
func wantTurns(t *testing.T, m *mem.Memory, at uint64, l *Lock, q *queue) {
	t.Helper()
	holding := 0
	for core, state := range q.states {
		s, _ := l.State(core)
		if s != state {
			t.Errorf("State(%d) = %d; want %d", core, s, state)
		}
		if s == Holds || s == Gives {
			holding++
		}
	}
	if holding > 1 {
		t.Errorf("%d cores hold or are about to let go", holding)
	}
	next, _ := m.Load(at, 8)
	served, _ := m.Load(at+8, 8)
	for i, core := range q.line {
		if _, ticket := l.State(core); ticket != served+uint64(i) {
			t.Errorf("State(%d) tells the ticket %d; want %d", core, ticket, served+uint64(i))
		}
	}
	if next != served+uint64(len(q.line)) {
		t.Errorf("the numbers are %d and %d with %d that have tickets", next, served, len(q.line))
	}
}

// P15.4: every order of calls up to a length.

// explore does each call of each core from here on, and goes back to where it was ahead of the next one.
func explore(t *testing.T, m *mem.Memory, l *Lock, q *queue, left int) {
	wantTurns(t, m, 8, l, q)
	if left == 0 || t.Failed() {
		return
	}
	was := *l
	numbers, _ := m.Bytes(8, 16)
	for core := range q.states {
		for call := range 3 {
			after := q.clone()
			act(t, l, after, core, call)
			explore(t, m, l, after, left-1)
			*l = was
			m.Put(8, numbers)
		}
	}
}

func TestEveryOrder(t *testing.T) {
	for _, c := range []struct{ cores, calls int }{{1, 12}, {2, 7}, {3, 5}, {4, 5}} {
		for _, first := range []uint64{0, most, most - 1} {
			m, l := lock(t, 8, c.cores)
			put(t, m, 8, first, first)
			explore(t, m, l, &queue{states: make([]int, c.cores)}, c.calls)
		}
	}
}

// Every order of steps alone of cores that let go as soon as they hold, and take no more: each has it once, and all orders end.
func TestEveryOrderOfOneTurnEach(t *testing.T) {
	for cores := 1; cores <= 3; cores++ {
		m, l := lock(t, 8, cores)
		q := &queue{states: make([]int, cores)}
		for core := range cores {
			act(t, l, q, core, 0)
		}
		turnsOf(t, m, l, q)
	}
}

func turnsOf(t *testing.T, m *mem.Memory, l *Lock, q *queue) {
	wantTurns(t, m, 8, l, q)
	if t.Failed() {
		return
	}
	if !slices.ContainsFunc(q.states, func(s int) bool { return s != Idle }) {
		wantNumbers(t, m, 8, uint64(len(q.states)), uint64(len(q.states)))
		return
	}
	was := *l
	numbers, _ := m.Bytes(8, 16)
	for core, state := range q.states {
		call := 2
		if state == Holds {
			call = 1
		}
		after := q.clone()
		act(t, l, after, core, call)
		if after.states[core] != state { // one that stays as it is leads nowhere new
			turnsOf(t, m, l, after)
		}
		*l = was
		m.Put(8, numbers)
	}
}

// P15.4, and the others over fixed scatters of calls, of all cores, with other calls between.

func TestAgainstQueue(t *testing.T) {
	for seed := range 24 {
		s := scatter(seed)
		cores := 1 + seed%8
		m, l := lock(t, 80, cores)
		around := all(t, m)
		first := most - uint64(seed)*20
		put(t, m, 80, first, first)
		q := &queue{states: make([]int, cores)}
		for number := range 4000 {
			act(t, l, q, s.from(0, cores-1), s.from(0, 4))
			wantTurns(t, m, 80, l, q)
			if t.Failed() {
				t.Fatalf("seed %d, call %d", seed, number)
			}
		}
		now := all(t, m)
		if !bytes.Equal(now[:80], around[:80]) || !bytes.Equal(now[96:], around[96:]) {
			t.Fatalf("seed %d: bytes beside the lock are changed", seed)
		}
	}
}

// Who spins holds by its next step, as soon as all with lesser tickets have let go, however long the others spun before.
func TestHoldsByTheNextStep(t *testing.T) {
	for seed := range 50 {
		s := scatter(seed)
		m, l := lock(t, 80, api.MaxCores)
		order := []int{0, 1, 2, 3, 4, 5, 6, 7}
		for i := range order {
			j := s.from(i, 7)
			order[i], order[j] = order[j], order[i]
		}
		for _, core := range order {
			bring(t, l, core, Spins)
		}
		for i, core := range order {
			for range s.from(0, 9) {
				if other := s.from(i, 7); other > i {
					wantStep(t, l, order[other], Spins)
				}
			}
			wantStep(t, l, core, Holds)
			for _, other := range order[i+1:] {
				wantStep(t, l, other, Spins)
			}
			l.Give(core)
			for _, other := range order[i+1:] {
				wantStep(t, l, other, Spins)
			}
			wantStep(t, l, core, Idle)
		}
		wantNumbers(t, m, 80, 8, 8)
	}
}

// The document's W5: where all cores step in turn, each one has the lock again and again.
func TestEverybodysTurn(t *testing.T) {
	_, l := lock(t, 80, api.MaxCores)
	held := make([]int, api.MaxCores)
	for range 2000 {
		for core := range api.MaxCores {
			l.Take(core)
			if state, _ := l.Step(core); state == Holds {
				held[core]++
				l.Give(core)
			}
		}
	}
	if least, greatest := slices.Min(held), slices.Max(held); least < 100 || greatest-least > 1 {
		t.Errorf("the cores held %v times", held)
	}
}

// Numbers of somebody else's between the calls: each step against what the memory has at that time.
func TestAgainstNumbers(t *testing.T) {
	for seed := range 24 {
		s := scatter(seed)
		cores := 1 + seed%8
		m, l := lock(t, 80, cores)
		states, tickets := make([]int, cores), make([]uint64, cores)
		for number := range 3000 {
			core := s.from(0, cores-1)
			switch s.next() % 8 {
			case 0: // mostly numbers near the cores' tickets, so that they come to hold
				put(t, m, 80, tickets[core]+uint64(s.from(0, 2)), tickets[s.from(0, cores-1)]-uint64(s.from(0, 1)))
			case 1:
				put(t, m, 80, edgeNumbers[s.from(0, len(edgeNumbers)-1)], s.next())
			case 2, 3:
				want := api.ErrState
				if states[core] == Idle {
					want, states[core] = api.OK, Wants
				}
				wantErrno(t, "Take", l.Take(core), want)
			case 4:
				want := api.ErrState
				if states[core] == Holds {
					want, states[core] = api.OK, Gives
				}
				wantErrno(t, "Give", l.Give(core), want)
			default:
				stepOf(t, m, l, core, &states[core], &tickets[core])
			}
			for i := range cores {
				wantState(t, l, i, states[i], tickets[i])
			}
			if t.Failed() {
				t.Fatalf("seed %d, call %d", seed, number)
			}
		}
	}
}

// stepOf does a step, and what the chapter says of it to a state and a ticket.
func stepOf(t *testing.T, m *mem.Memory, l *Lock, core int, state *int, ticket *uint64) {
	t.Helper()
	next, _ := m.Load(80, 8)
	served, _ := m.Load(88, 8)
	switch *state {
	case Wants:
		*state, *ticket = Spins, next
		next++
	case Spins:
		if served == *ticket {
			*state = Holds
		}
	case Gives:
		*state = Idle
		served++
	}
	wantStep(t, l, core, *state)
	wantNumbers(t, m, 80, next, served)
}

// Two locks in one memory over fixed scatters of calls: each against a queue of its own.
func TestTwoLocksAgainstQueues(t *testing.T) {
	for _, places := range [][2]uint64{{0, 16}, {16, 0}, {104, 240}} {
		s := scatter(places[0])
		m := filled(t, 1)
		var locks [2]*Lock
		var queues [2]*queue
		for i, at := range places {
			locks[i] = lockOf(t, m, at, 3+i)
			queues[i] = &queue{states: make([]int, 3+i)}
		}
		for number := range 5000 {
			i := s.from(0, 1)
			act(t, locks[i], queues[i], s.from(0, 2+i), s.from(0, 4))
			for j, at := range places {
				wantTurns(t, m, at, locks[j], queues[j])
			}
			if t.Failed() {
				t.Fatalf("places %v, call %d", places, number)
			}
		}
	}
}

// The same calls are answered alike, whatever other locks were asked between (DOC.md, rule 5).
func TestAnsweredAlike(t *testing.T) {
	m, a := lock(t, 8, 4)
	n, b := lock(t, 8, 4)
	other := lockOf(t, m, 64, 4)
	lockOf(t, n, 64, 4)
	s, noise := scatter(5), scatter(6)
	for range 3000 {
		core := s.from(-1, 4)
		takeA, giveA := a.Take(core), a.Give(core)
		stepA, errA := a.Step(core)
		for range noise.from(0, 3) {
			other.Take(noise.from(0, 3))
			other.Step(noise.from(0, 3))
			other.Give(noise.from(0, 3))
		}
		takeB, giveB := b.Take(core), b.Give(core)
		if stepB, errB := b.Step(core); takeA != takeB || giveA != giveB || stepA != stepB || errA != errB {
			t.Fatalf("core %d: %d %d %d %d, then %d %d %d %d", core, takeA, giveA, stepA, errA, takeB, giveB, stepB, errB)
		}
	}
	x, _ := m.Bytes(0, 64)
	y, _ := n.Bytes(0, 64)
	if !bytes.Equal(x, y) {
		t.Error("the numbers are not the same")
	}
}
