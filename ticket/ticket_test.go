package ticket

import (
	"bytes"
	"math"
	"testing"

	"palisade/api"
	"palisade/mem"
)

// edgeInts are numbers at both ends of int, and around the edges within.
var edgeInts = []int{math.MinInt, math.MinInt + 1, -1 << 32, math.MinInt32 - 1, math.MinInt32, -9, -8, -2, -1, 0, 1, 2, 3, 7, 8, 9, 10, 16, 255, 256, math.MaxInt32, math.MaxInt32 + 1, 1 << 32, 1<<32 + 1, 1 << 62, math.MaxInt - 1, math.MaxInt}

// edgeNumbers are numbers at both ends of uint64, and around the edges within.
var edgeNumbers = []uint64{0, 1, 2, 255, 256, 1<<32 - 1, 1 << 32, 1<<63 - 1, 1 << 63, 1<<63 + 1, math.MaxUint64 - 2, math.MaxUint64 - 1, math.MaxUint64}

const most = math.MaxUint64

// filled is a memory of so many frames of which no byte is 0.
func filled(t *testing.T, frames int) *mem.Memory {
	t.Helper()
	m, e := mem.New(frames)
	if e != api.OK {
		t.Fatalf("mem.New(%d) = %d", frames, int(e))
	}
	b := make([]byte, frames*api.Page)
	for i := range b {
		b[i] = byte(i%251) + 1
	}
	if e := m.Put(0, b); e != api.OK {
		t.Fatal(int(e))
	}
	return m
}

// lock is one at an address of a memory that is filled.
func lock(t *testing.T, at uint64, cores int) (*mem.Memory, *Lock) {
	t.Helper()
	m := filled(t, 1)
	return m, lockOf(t, m, at, cores)
}

func lockOf(t *testing.T, m *mem.Memory, at uint64, cores int) *Lock {
	t.Helper()
	l, e := New(m, at, cores)
	if l == nil || e != api.OK {
		t.Fatalf("New(%d, %d) = %v, %d", at, cores, l, int(e))
	}
	return l
}

// all tells all bytes of a memory.
func all(t *testing.T, m *mem.Memory) []byte {
	t.Helper()
	b, e := m.Bytes(0, m.Frames()*api.Page)
	if e != api.OK {
		t.Fatal(int(e))
	}
	return b
}

// put writes both numbers, as somebody else would.
func put(t *testing.T, m *mem.Memory, at, next, served uint64) {
	t.Helper()
	if e := m.Store(at, 8, next); e != api.OK {
		t.Fatal(int(e))
	}
	if e := m.Store(at+8, 8, served); e != api.OK {
		t.Fatal(int(e))
	}
}

func wantErrno(t *testing.T, what string, e, want api.Errno) {
	t.Helper()
	if e != want {
		t.Errorf("%s = %d; want %d", what, int(e), int(want))
	}
}

func wantNumbers(t *testing.T, m *mem.Memory, at, next, served uint64) {
	t.Helper()
	n, e := m.Load(at, 8)
	s, f := m.Load(at+8, 8)
	if n != next || s != served || e != api.OK || f != api.OK {
		t.Errorf("the numbers at %d are %d and %d; want %d and %d", at, n, s, next, served)
	}
}

func wantStep(t *testing.T, l *Lock, core, state int) {
	t.Helper()
	if s, e := l.Step(core); s != state || e != api.OK {
		t.Errorf("Step(%d) = %d, %d; want %d, 0", core, s, int(e), state)
	}
}

func wantNoStep(t *testing.T, l *Lock, core int, want api.Errno) {
	t.Helper()
	if s, e := l.Step(core); s != 0 || e != want {
		t.Errorf("Step(%d) = %d, %d; want 0, %d", core, s, int(e), int(want))
	}
}

func wantState(t *testing.T, l *Lock, core, state int, ticket uint64) {
	t.Helper()
	if s, n := l.State(core); s != state || n != ticket {
		t.Errorf("State(%d) = %d, %d; want %d, %d", core, s, n, state, ticket)
	}
}

// bring lets a core that is Idle, with no other one before it, come to a state.
func bring(t *testing.T, l *Lock, core, state int) {
	t.Helper()
	if state >= Wants {
		wantErrno(t, "Take", l.Take(core), api.OK)
	}
	if state >= Spins {
		wantStep(t, l, core, Spins)
	}
	if state >= Holds {
		wantStep(t, l, core, Holds)
	}
	if state >= Gives {
		wantErrno(t, "Give", l.Give(core), api.OK)
	}
}

// The chapter's example, and the document's seventh.

func TestExample(t *testing.T) {
	_, l := lock(t, 0, 2)
	wantErrno(t, "Take(0)", l.Take(0), api.OK)
	wantErrno(t, "Take(1)", l.Take(1), api.OK)
	wantStep(t, l, 1, Spins)
	wantStep(t, l, 0, Spins)
	wantState(t, l, 1, Spins, 0)
	wantState(t, l, 0, Spins, 1)
	wantStep(t, l, 0, Spins)
	wantStep(t, l, 1, Holds)
	wantErrno(t, "Give(1)", l.Give(1), api.OK)
	wantStep(t, l, 1, Idle)
	wantStep(t, l, 0, Holds)
}

func TestStates(t *testing.T) {
	if Idle != 0 || Wants != 1 || Spins != 2 || Holds != 3 || Gives != 4 {
		t.Error(Idle, Wants, Spins, Holds, Gives)
	}
}

// P15.1

// edgePlaces are addresses around the edges of a memory of so many bytes, and of uint64.
func edgePlaces(size uint64) []uint64 {
	places := []uint64{size / 2, size/2 + 4, 1 << 24, 1<<31 - 8, 1 << 31, 1<<32 - 8, 1 << 32, 1<<32 + 8, 1<<63 - 8, 1<<63 - 1, 1 << 63, 1<<63 + 8}
	for i := range uint64(41) {
		places = append(places, i, size-20+i, most-i)
	}
	return places
}

// wantNew holds New against the errors in their order, and looks whether it changes what it may.
func wantNew(t *testing.T, m *mem.Memory, at uint64, cores int) {
	t.Helper()
	before := all(t, m)
	want := api.OK
	switch {
	case cores < 1 || cores > 8:
		want = api.ErrArg
	case at%8 != 0:
		want = api.ErrAlign
	case at > uint64(len(before))-16:
		want = api.ErrBound
	}
	l, e := New(m, at, cores)
	if e != want || (l != nil) != (want == api.OK) {
		t.Errorf("New(%d, %d) = %v, %d; want %d", at, cores, l, int(e), int(want))
	}
	if want == api.OK {
		clear(before[at : at+16])
	}
	if !bytes.Equal(all(t, m), before) {
		t.Errorf("New(%d, %d) changes other bytes than the two numbers", at, cores)
	}
}

func TestNew(t *testing.T) {
	for _, frames := range []int{1, 2, 3} {
		for _, at := range edgePlaces(uint64(frames) * api.Page) {
			for _, cores := range edgeInts {
				wantNew(t, filled(t, frames), at, cores)
			}
		}
	}
}

func TestNewAtEachAddress(t *testing.T) {
	for at := range uint64(2*api.Page + 64) {
		wantNew(t, filled(t, 2), at, 1)
	}
}

func TestNewWithEachNumberOfCores(t *testing.T) {
	m := filled(t, 1)
	for cores := -300; cores <= 300; cores++ {
		wantNew(t, m, 16, cores)
	}
}

func TestNewInTheGreatestMemory(t *testing.T) {
	m, e := mem.New(api.MaxFrames)
	if e != api.OK {
		t.Fatal(int(e))
	}
	end := uint64(api.MaxFrames * api.Page)
	for _, at := range []uint64{end - 8, end, end + 8} {
		if l, e := New(m, at, 1); l != nil || e != api.ErrBound {
			t.Errorf("New(%d) = %v, %d", at, l, int(e))
		}
	}
	l := lockOf(t, m, end-16, 8)
	bring(t, l, 7, Holds)
	wantNumbers(t, m, end-16, 1, 0)
}

// No memory comes ahead of all other errors.
func TestNewWithoutMemory(t *testing.T) {
	for _, m := range []*mem.Memory{nil, {}, new(mem.Memory), (*mem.Memory)(nil).Clone()} {
		for _, at := range edgePlaces(api.Page) {
			for _, cores := range edgeInts {
				if l, e := New(m, at, cores); l != nil || e != api.ErrNil {
					t.Errorf("New(%d, %d) of no memory = %v, %d", at, cores, l, int(e))
				}
			}
		}
		if m.Frames() != 0 {
			t.Error("New makes a memory of none")
		}
	}
}

// Several errors at once, in the order of the chapter.
func TestNewOrderOfErrors(t *testing.T) {
	m := filled(t, 1)
	before := all(t, m)
	for _, c := range []struct {
		m     *mem.Memory
		at    uint64
		cores int
		want  api.Errno
	}{
		{nil, most, 0, api.ErrNil},
		{nil, 0, 0, api.ErrNil},
		{nil, 4, 1, api.ErrNil},
		{&mem.Memory{}, 256, 9, api.ErrNil},
		{m, most, 0, api.ErrArg},
		{m, 4, 9, api.ErrArg},
		{m, 256, -1, api.ErrArg},
		{m, most, 1, api.ErrAlign},
		{m, 257, 8, api.ErrAlign},
		{m, 241, 8, api.ErrAlign},
		{m, most - 7, 8, api.ErrBound},
		{m, most - 15, 8, api.ErrBound},
		{m, 248, 1, api.ErrBound},
		{m, 256, 1, api.ErrBound},
	} {
		if l, e := New(c.m, c.at, c.cores); l != nil || e != c.want {
			t.Errorf("New(%d, %d) = %v, %d; want %d", c.at, c.cores, l, int(e), int(c.want))
		}
	}
	if !bytes.Equal(all(t, m), before) {
		t.Error("New with an error changes the memory")
	}
}

// Both numbers are 0 whatever stood there, that of an older lock too; the new lock's cores are all Idle.
func TestNewOverNumbers(t *testing.T) {
	for _, next := range edgeNumbers {
		for _, served := range edgeNumbers {
			m := filled(t, 1)
			put(t, m, 64, next, served)
			l := lockOf(t, m, 64, 3)
			wantNumbers(t, m, 64, 0, 0)
			for core := range 3 {
				wantState(t, l, core, Idle, 0)
			}
		}
	}
	m, old := lock(t, 64, 2)
	bring(t, old, 1, Gives)
	wantStep(t, old, 1, Idle)
	bring(t, old, 1, Holds)
	l := lockOf(t, m, 64, 2)
	wantNumbers(t, m, 64, 0, 0)
	wantState(t, l, 1, Idle, 0)
	wantState(t, old, 1, Holds, 1)
	bring(t, l, 0, Holds)
	wantState(t, l, 0, Holds, 0)
}

// As many cores as were asked for, and no more.
func TestCores(t *testing.T) {
	for cores := 1; cores <= api.MaxCores; cores++ {
		m, l := lock(t, 240, cores)
		for _, core := range append([]int{cores - 1, cores, cores + 1}, edgeInts...) {
			before := all(t, m)
			if core >= 0 && core < cores {
				wantStep(t, l, core, Idle)
				continue
			}
			wantErrno(t, "Take of no core", l.Take(core), api.ErrArg)
			wantErrno(t, "Give of no core", l.Give(core), api.ErrArg)
			wantNoStep(t, l, core, api.ErrArg)
			wantState(t, l, core, 0, 0)
			if !bytes.Equal(all(t, m), before) {
				t.Errorf("a call of the core %d changes the memory", core)
			}
		}
		bring(t, l, cores-1, Holds)
		for core := range cores - 1 {
			wantState(t, l, core, Idle, 0)
		}
	}
}

// P15.2

// Take and Give in each state, with what they answer, and with what stands behind them; neither one writes into the memory.
func TestTakeAndGive(t *testing.T) {
	for state := Idle; state <= Gives; state++ {
		for core := range 3 {
			m, l := lock(t, 8, 3)
			bring(t, l, core, state)
			before := all(t, m)
			afterTake, take := state, api.ErrState
			if state == Idle {
				afterTake, take = Wants, api.OK
			}
			wantErrno(t, "Take", l.Take(core), take)
			wantState(t, l, core, afterTake, 0)
			afterGive, give := afterTake, api.ErrState
			if state == Holds {
				afterGive, give = Gives, api.OK
			}
			wantErrno(t, "Give", l.Give(core), give)
			wantState(t, l, core, afterGive, 0)
			for other := range 3 {
				if other != core {
					wantState(t, l, other, Idle, 0)
				}
			}
			if !bytes.Equal(all(t, m), before) {
				t.Error("Take or Give changes the memory")
			}
		}
	}
}

func TestGiveAheadOfTake(t *testing.T) {
	for state := Idle; state <= Gives; state++ {
		_, l := lock(t, 8, 1)
		bring(t, l, 0, state)
		want, after := api.ErrState, state
		if state == Holds {
			want, after = api.OK, Gives
		}
		wantErrno(t, "Give", l.Give(0), want)
		wantState(t, l, 0, after, 0)
	}
}

// Of no core it is ErrArg, in whatever states the others are.
func TestTakeAndGiveOfNoCore(t *testing.T) {
	for state := Idle; state <= Gives; state++ {
		m, l := lock(t, 8, 2)
		bring(t, l, 1, state)
		before := all(t, m)
		for _, core := range edgeInts {
			if core == 0 || core == 1 {
				continue
			}
			wantErrno(t, "Take of no core", l.Take(core), api.ErrArg)
			wantErrno(t, "Give of no core", l.Give(core), api.ErrArg)
			wantNoStep(t, l, core, api.ErrArg)
			wantState(t, l, core, 0, 0)
		}
		wantState(t, l, 0, Idle, 0)
		wantState(t, l, 1, state, 0)
		if !bytes.Equal(all(t, m), before) {
			t.Error("a call of no core changes the memory")
		}
	}
}

// Who does not hold gives nothing, whoever else does.
func TestGiveOfAnother(t *testing.T) {
	m, l := lock(t, 8, 3)
	bring(t, l, 2, Holds)
	wantErrno(t, "Take(0)", l.Take(0), api.OK)
	wantErrno(t, "Give(0)", l.Give(0), api.ErrState)
	wantStep(t, l, 0, Spins)
	wantErrno(t, "Give(0)", l.Give(0), api.ErrState)
	wantErrno(t, "Give(1)", l.Give(1), api.ErrState)
	wantState(t, l, 0, Spins, 1)
	wantState(t, l, 1, Idle, 0)
	wantState(t, l, 2, Holds, 0)
	wantNumbers(t, m, 8, 2, 0)
}

// P15.3

// A step in each state, with numbers that somebody else wrote: what is told, which number changes, and that no other byte does.
func TestStep(t *testing.T) {
	for state := Idle; state <= Gives; state++ {
		for _, next := range edgeNumbers {
			for _, served := range edgeNumbers {
				m, l := lock(t, 104, 2)
				bring(t, l, 1, state)
				put(t, m, 104, next, served)
				want := m.Clone()
				after, ticket := state, uint64(0)
				switch state {
				case Wants:
					after, ticket = Spins, next
					put(t, want, 104, next+1, served)
				case Spins:
					if served == 0 {
						after = Holds
					}
				case Gives:
					after = Idle
					put(t, want, 104, next, served+1)
				}
				wantStep(t, l, 1, after)
				wantState(t, l, 1, after, ticket)
				wantState(t, l, 0, Idle, 0)
				if !m.Same(want) {
					t.Errorf("a step from %d with %d and %d leaves other bytes than it should", state, next, served)
				}
			}
		}
	}
}

// Idle and Holds stay what they are, however often the core steps.
func TestStepOfWhoStays(t *testing.T) {
	for _, state := range []int{Idle, Holds} {
		m, l := lock(t, 8, 1)
		bring(t, l, 0, state)
		before := all(t, m)
		for range 5 {
			wantStep(t, l, 0, state)
			wantState(t, l, 0, state, 0)
		}
		if !bytes.Equal(all(t, m), before) {
			t.Error("a step of a core that stays changes the memory")
		}
	}
}

// Who spins changes nothing, and keeps its ticket.
func TestStepOfWhoSpins(t *testing.T) {
	m, l := lock(t, 8, 2)
	bring(t, l, 0, Holds)
	bring(t, l, 1, Spins)
	before := all(t, m)
	for range 9 {
		wantStep(t, l, 1, Spins)
		wantState(t, l, 1, Spins, 1)
	}
	if !bytes.Equal(all(t, m), before) {
		t.Error("a step of a core that spins changes the memory")
	}
}

// The ticket is the last one that the core had, also when it let go, and when it wants again.
func TestStateThroughTurns(t *testing.T) {
	m, l := lock(t, 8, 2)
	last := uint64(0)
	for turn := range uint64(20) {
		core, other := int(turn%2), int((turn+1)%2)
		had := turn - min(turn, 2) // the core's own turn before this one, none at first
		wantState(t, l, core, Idle, had)
		l.Take(core)
		wantState(t, l, core, Wants, had)
		wantNumbers(t, m, 8, turn, turn)
		wantStep(t, l, core, Spins)
		wantState(t, l, core, Spins, turn)
		wantNumbers(t, m, 8, turn+1, turn)
		wantStep(t, l, core, Holds)
		wantState(t, l, core, Holds, turn)
		wantNumbers(t, m, 8, turn+1, turn)
		l.Give(core)
		wantState(t, l, core, Gives, turn)
		wantNumbers(t, m, 8, turn+1, turn)
		wantStep(t, l, core, Idle)
		wantState(t, l, core, Idle, turn)
		wantNumbers(t, m, 8, turn+1, turn+1)
		wantState(t, l, other, Idle, last)
		last = turn
	}
}

// A ticket is drawn at the step, not at Take.
func TestTicketIsDrawnAtTheStep(t *testing.T) {
	m, l := lock(t, 8, 3)
	for core := range 3 {
		l.Take(core)
	}
	wantNumbers(t, m, 8, 0, 0)
	for i, core := range []int{2, 0, 1} {
		wantStep(t, l, core, Spins)
		wantState(t, l, core, Spins, uint64(i))
		wantNumbers(t, m, 8, uint64(i)+1, 0)
	}
}

// The numbers go on at 0 behind the greatest.
func TestNumbersGoRound(t *testing.T) {
	m, l := lock(t, 8, 4)
	put(t, m, 8, most-1, most-1)
	for i, core := range []int{3, 1, 0, 2} {
		l.Take(core)
		wantStep(t, l, core, Spins)
		wantState(t, l, core, Spins, most-1+uint64(i))
	}
	wantNumbers(t, m, 8, 2, most-1)
	for i, core := range []int{3, 1, 0, 2} {
		for _, other := range []int{2, 0, 1, 3}[:3-i] {
			wantStep(t, l, other, Spins)
		}
		wantStep(t, l, core, Holds)
		l.Give(core)
		wantStep(t, l, core, Idle)
		wantNumbers(t, m, 8, 2, most+uint64(i))
	}
}

// What somebody else writes between two steps is what the next step meets.
func TestNumbersOfSomebodyElse(t *testing.T) {
	for _, first := range edgeNumbers {
		for _, serves := range edgeNumbers {
			m, l := lock(t, 16, 2)
			l.Take(0)
			put(t, m, 16, first, serves)
			wantStep(t, l, 0, Spins)
			wantState(t, l, 0, Spins, first)
			wantNumbers(t, m, 16, first+1, serves)
			// Neither more than its ticket nor less lets a core hold, nor what the next ticket is.
			for _, other := range []uint64{first + 1, first - 1, first + 1<<32, first + 1<<63, ^first} {
				put(t, m, 16, first, other)
				wantStep(t, l, 0, Spins)
				wantNumbers(t, m, 16, first, other)
			}
			put(t, m, 16, serves, first)
			wantStep(t, l, 0, Holds)
			wantNumbers(t, m, 16, serves, first)
			l.Give(0)
			// What it lets go is what is served now, not its ticket.
			put(t, m, 16, first, serves)
			wantStep(t, l, 0, Idle)
			wantState(t, l, 0, Idle, first)
			wantNumbers(t, m, 16, first, serves+1)
		}
	}
}

// The number that is served goes back: who holds goes on holding, and another one may hold beside it.
func TestServedGoesBack(t *testing.T) {
	m, l := lock(t, 16, 2)
	put(t, m, 16, 5, 5)
	bring(t, l, 0, Holds)
	l.Take(1)
	put(t, m, 16, 3, 3)
	wantStep(t, l, 0, Holds)
	wantStep(t, l, 1, Spins)
	wantStep(t, l, 1, Holds)
	wantState(t, l, 0, Holds, 5)
	wantState(t, l, 1, Holds, 3)
	l.Give(0)
	wantStep(t, l, 0, Idle)
	wantNumbers(t, m, 16, 4, 4)
	l.Give(1)
	wantStep(t, l, 1, Idle)
	wantNumbers(t, m, 16, 4, 5)
}

// The next ticket is given twice: both who have it hold.
func TestTicketTwice(t *testing.T) {
	m, l := lock(t, 16, 2)
	bring(t, l, 0, Holds)
	put(t, m, 16, 0, 0)
	bring(t, l, 1, Holds)
	wantState(t, l, 0, Holds, 0)
	wantState(t, l, 1, Holds, 0)
}

// Numbers stand with the lowest byte first, the next ticket ahead of the one that is served.
func TestBytesOfTheNumbers(t *testing.T) {
	m, l := lock(t, 240, 1)
	put(t, m, 240, 0x1fe, 0x1fe)
	bring(t, l, 0, Gives)
	wantStep(t, l, 0, Idle)
	b, _ := m.Bytes(240, 16)
	if !bytes.Equal(b, []byte{0xff, 1, 0, 0, 0, 0, 0, 0, 0xff, 1, 0, 0, 0, 0, 0, 0}) {
		t.Error(b)
	}
	wantState(t, l, 0, Idle, 0x1fe)
}

// Where the memory's bytes are gone, a step that would reach them tells the memory's own error, and the core stays; one that would not tells the state.
func TestMemoryIsGone(t *testing.T) {
	for state := Idle; state <= Gives; state++ {
		for _, want := range []api.Errno{api.ErrNil, api.ErrBound} {
			m := filled(t, 2)
			l := lockOf(t, m, 256, 1)
			put(t, m, 256, 7, 7)
			bring(t, l, 0, state)
			_, ticket := l.State(0)
			kept := *m
			if *m = (mem.Memory{}); want == api.ErrBound {
				*m = *filled(t, 1)
			}
			if state == Idle || state == Holds {
				wantStep(t, l, 0, state)
			} else {
				wantNoStep(t, l, 0, want)
			}
			wantState(t, l, 0, state, ticket)
			*m = kept
			wantStep(t, l, 0, []int{Idle, Spins, Holds, Holds, Idle}[state])
		}
	}
}

// DOC.md, rule 1

func TestNoLock(t *testing.T) {
	for _, l := range []*Lock{nil, {}, new(Lock)} {
		for _, core := range edgeInts {
			wantErrno(t, "Take of no lock", l.Take(core), api.ErrNil)
			wantErrno(t, "Give of no lock", l.Give(core), api.ErrNil)
			wantNoStep(t, l, core, api.ErrNil)
			wantState(t, l, core, 0, 0)
		}
		if l != nil && *l != (Lock{}) {
			t.Error("a lock that no call made is changed")
		}
	}
}

// Calls of no lock change nothing of one.
func TestNoLockBesideOne(t *testing.T) {
	m, l := lock(t, 0, 1)
	bring(t, l, 0, Spins)
	before := all(t, m)
	var plain Lock
	for _, none := range []*Lock{nil, &plain} {
		none.Take(0)
		none.Step(0)
		none.Give(0)
	}
	wantState(t, l, 0, Spins, 0)
	if !bytes.Equal(all(t, m), before) {
		t.Error("a call of no lock changes the memory")
	}
}

// One that a call made is no plain one, however little it has.
func TestTheLeastLock(t *testing.T) {
	m, e := mem.New(1)
	if e != api.OK {
		t.Fatal(int(e))
	}
	l := lockOf(t, m, 0, 1)
	wantStep(t, l, 0, Idle)
	wantErrno(t, "Give", l.Give(0), api.ErrState)
	wantErrno(t, "Take", l.Take(0), api.OK)
}

// Two locks in one memory, side by side, and two in two memories at one address.

func TestTwoLocks(t *testing.T) {
	m, a := lock(t, 32, 2)
	around := all(t, m)
	for _, at := range []uint64{16, 48} {
		b := lockOf(t, m, at, 2)
		bring(t, a, 0, Holds)
		_, ticket := a.State(0)
		bring(t, b, 0, Spins)
		bring(t, b, 1, Spins)
		wantNumbers(t, m, 32, ticket+1, ticket)
		wantNumbers(t, m, at, 2, 0)
		wantStep(t, b, 1, Spins)
		wantStep(t, b, 0, Holds)
		wantState(t, a, 0, Holds, ticket)
		wantState(t, a, 1, Idle, 0)
		a.Give(0)
		wantStep(t, a, 0, Idle)
		wantNumbers(t, m, 32, ticket+1, ticket+1)
		wantNumbers(t, m, at, 2, 0)
		wantState(t, b, 0, Holds, 0)
		wantState(t, b, 1, Spins, 1)
	}
	now := all(t, m)
	if !bytes.Equal(now[:16], around[:16]) || !bytes.Equal(now[64:], around[64:]) {
		t.Error("bytes beside the locks are changed")
	}
}

func TestTwoMemories(t *testing.T) {
	m, a := lock(t, 32, 1)
	n := m.Clone()
	b := lockOf(t, n, 32, 1)
	bring(t, a, 0, Gives)
	wantNumbers(t, n, 32, 0, 0)
	wantState(t, b, 0, Idle, 0)
	bring(t, b, 0, Spins)
	wantStep(t, a, 0, Idle)
	wantNumbers(t, m, 32, 1, 1)
	wantNumbers(t, n, 32, 1, 0)
}
