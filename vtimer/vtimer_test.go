package vtimer

import (
	"maps"
	"math"
	"slices"
	"testing"

	"palisade/api"
)

// edgeInts are ids at both ends of int, and some between.
var edgeInts = []int{math.MinInt, math.MinInt + 1, -1 << 32, math.MinInt32 - 1, math.MinInt32, -65, -64, -2, -1, 0, 1, 2, 63, 64, 65, 255, 256, math.MaxInt32, math.MaxInt32 + 1, 1 << 32, 1<<32 + 1, 1 << 62, math.MaxInt - 1, math.MaxInt}

// greatest is the greatest clock, and the greatest time.
const greatest = 1 << 62

// edgeTimes are clocks and times, and numbers that count as the greatest one.
var edgeTimes = []uint64{0, 1, 2, 99, 100, 1<<32 - 1, 1 << 32, 1 << 61, greatest - 100, greatest - 1, greatest, greatest + 1, 1<<63 - 1, 1 << 63, 1<<63 + 1, 1<<63 + 1<<62, math.MaxUint64 - 1, math.MaxUint64}

func wantErrno(t *testing.T, what string, e, want api.Errno) {
	t.Helper()
	if e != want {
		t.Errorf("%s = %d; want %d", what, int(e), int(want))
	}
}

func begin(t *testing.T, x *Timers, id int, clock uint64) {
	t.Helper()
	if e := x.Begin(id, clock); e != api.OK {
		t.Errorf("Begin(%d, %d) = %d; want 0", id, clock, int(e))
	}
}

func set(t *testing.T, x *Timers, id int, at uint64) {
	t.Helper()
	if e := x.Set(id, at); e != api.OK {
		t.Errorf("Set(%d, %d) = %d; want 0", id, at, int(e))
	}
}

func stop(t *testing.T, x *Timers, id int) {
	t.Helper()
	if e := x.Stop(id); e != api.OK {
		t.Errorf("Stop(%d) = %d; want 0", id, int(e))
	}
}

func halt(t *testing.T, x *Timers, id int, clock uint64) {
	t.Helper()
	if e := x.Halt(id, clock); e != api.OK {
		t.Errorf("Halt(%d, %d) = %d; want 0", id, clock, int(e))
	}
}

func goOn(t *testing.T, x *Timers, id int, clock uint64) {
	t.Helper()
	if e := x.Go(id, clock); e != api.OK {
		t.Errorf("Go(%d, %d) = %d; want 0", id, clock, int(e))
	}
}

func end(t *testing.T, x *Timers, id int) {
	t.Helper()
	if e := x.End(id); e != api.OK {
		t.Errorf("End(%d) = %d; want 0", id, int(e))
	}
}

func wantNow(t *testing.T, x *Timers, id int, clock, want uint64) {
	t.Helper()
	if now, ok := x.Now(id, clock); now != want || !ok {
		t.Errorf("Now(%d, %d) = %d, %v; want %d, true", id, clock, now, ok, want)
	}
}

func wantNoNow(t *testing.T, x *Timers, id int, clock uint64) {
	t.Helper()
	if now, ok := x.Now(id, clock); now != 0 || ok {
		t.Errorf("Now(%d, %d) = %d, %v; want 0, false", id, clock, now, ok)
	}
}

func wantNext(t *testing.T, x *Timers, want uint64) {
	t.Helper()
	if next, ok := x.Next(); next != want || !ok {
		t.Errorf("Next = %d, %v; want %d, true", next, ok, want)
	}
}

func wantNoNext(t *testing.T, x *Timers) {
	t.Helper()
	if next, ok := x.Next(); next != 0 || ok {
		t.Errorf("Next = %d, %v; want 0, false", next, ok)
	}
}

func wantDue(t *testing.T, x *Timers, clock uint64, ids ...int) {
	t.Helper()
	if due := x.Due(clock); !slices.Equal(due, ids) {
		t.Errorf("Due(%d) = %v; want %v", clock, due, ids)
	}
}

// as is all that some timers keep.
func as(x *Timers) Timers {
	return Timers{spans: maps.Clone(x.spans), timers: maps.Clone(x.timers)}
}

// wantAs looks whether they keep what they kept.
func wantAs(t *testing.T, what any, x *Timers, before Timers) {
	t.Helper()
	if !maps.Equal(x.spans, before.spans) || !maps.Equal(x.timers, before.timers) {
		t.Errorf("%+v changed something: %v, then %v", what, before, *x)
	}
}

// The chapter's example.

func TestExample(t *testing.T) {
	x := New()
	begin(t, x, 1, 100)
	set(t, x, 1, 10)
	wantNext(t, x, 110)
	wantDue(t, x, 109)
	wantDue(t, x, 110, 1)
	wantDue(t, x, 200)
	begin(t, x, 2, 0)
	set(t, x, 2, 50)
	halt(t, x, 2, 20)
	goOn(t, x, 2, 120)
	wantNext(t, x, 150)
	wantDue(t, x, 149)
	wantDue(t, x, 150, 2)
}

// DOC.md, rule 1: of nil, and of those that no call made.

func TestNobodys(t *testing.T) {
	for _, x := range []*Timers{nil, {}} {
		for _, id := range edgeInts {
			for _, n := range edgeTimes {
				wantErrno(t, "Begin", x.Begin(id, n), api.ErrNil)
				wantNoNow(t, x, id, n)
				wantErrno(t, "Set", x.Set(id, n), api.ErrNil)
				wantErrno(t, "Halt", x.Halt(id, n), api.ErrNil)
				wantErrno(t, "Go", x.Go(id, n), api.ErrNil)
				wantDue(t, x, n)
			}
			wantErrno(t, "Stop", x.Stop(id), api.ErrNil)
			wantErrno(t, "End", x.End(id), api.ErrNil)
			wantNoNext(t, x)
		}
		if x != nil && (x.spans != nil || x.timers != nil) {
			t.Errorf("calls of some that no call made changed them: %v", *x)
		}
	}
}

// P21.1

func TestNew(t *testing.T) {
	x, other := New(), New()
	if x == nil || x == other {
		t.Fatalf("New = %p, then %p", x, other)
	}
	wantNoNext(t, x)
	for _, n := range edgeTimes {
		wantDue(t, x, n)
	}
	begin(t, x, 1, 0)
	set(t, x, 1, 0)
	wantNoNow(t, other, 1, 0)
	wantNoNext(t, other)
	wantDue(t, other, 5)
	wantErrno(t, "End", other.End(1), api.ErrNone)
}

// Of each id: nobody began, then it alone.
func TestBeginOfAnyId(t *testing.T) {
	for _, id := range edgeInts {
		x := New()
		begin(t, x, id, 100)
		for _, other := range edgeInts {
			if other == id {
				wantNow(t, x, id, 130, 30)
				continue
			}
			wantNoNow(t, x, other, 130)
			before := as(x)
			wantErrno(t, "Set", x.Set(other, 1), api.ErrNone)
			wantErrno(t, "Stop", x.Stop(other), api.ErrNone)
			wantErrno(t, "Halt", x.Halt(other, 1), api.ErrNone)
			wantErrno(t, "Go", x.Go(other, 1), api.ErrNone)
			wantErrno(t, "End", x.End(other), api.ErrNone)
			wantAs(t, other, x, before)
		}
		wantNoNext(t, x)
		set(t, x, id, 7)
		wantNext(t, x, 107)
		wantDue(t, x, 107, id)
		end(t, x, id)
		wantNoNow(t, x, id, 130)
	}
}

// Its base is the clock, it goes on, and no timer is set.
func TestBeginLeaves(t *testing.T) {
	for _, clock := range edgeTimes {
		x, base := New(), counted(clock)
		begin(t, x, 3, clock)
		wantNow(t, x, 3, clock, 0)
		wantNow(t, x, 3, base, 0)
		wantNow(t, x, 3, math.MaxUint64, greatest-base)
		wantNoNext(t, x)
		wantDue(t, x, math.MaxUint64)
		wantErrno(t, "Go", x.Go(3, clock), api.ErrState)
		set(t, x, 3, 0)
		wantNext(t, x, base)
		wantDue(t, x, clock, 3)
	}
}

func TestBeginTwice(t *testing.T) {
	for _, id := range edgeInts {
		x := New()
		begin(t, x, id, 100)
		set(t, x, id, 50)
		before := as(x)
		for _, clock := range edgeTimes {
			wantErrno(t, "Begin", x.Begin(id, clock), api.ErrThere)
		}
		wantAs(t, "Begin", x, before)
		wantNow(t, x, id, 120, 20)
		wantNext(t, x, 150)
		halt(t, x, id, 130)
		before = as(x)
		wantErrno(t, "Begin", x.Begin(id, 140), api.ErrThere)
		wantAs(t, "Begin", x, before)
		wantNow(t, x, id, 150, 30)
	}
}

// full has 64 that began at their numbers, with timers of some, and some halted.
func full(t *testing.T) (*Timers, *model) {
	t.Helper()
	x, m := New(), &model{}
	for id := range 64 {
		begin(t, x, id, uint64(id))
		wantErrno(t, "Begin", m.begin(id, uint64(id)), api.OK)
		if id%2 == 0 {
			wantAlike(t, x, m, call{doSet, id, uint64(1000 - id*id%37)})
		}
		if id%3 == 0 {
			wantAlike(t, x, m, call{doHalt, id, uint64(200 - id)})
		}
	}
	return x, m
}

func TestBeginOfMany(t *testing.T) {
	x, m := full(t)
	before := as(x)
	for _, id := range edgeInts {
		want := api.ErrFull
		if id >= 0 && id < 64 {
			want = api.ErrThere
		}
		wantErrno(t, "Begin", x.Begin(id, 5), want)
		wantAs(t, "Begin", x, before)
	}
	for _, id := range []int{0, 31, 63} {
		wantAlike(t, x, m, call{what: doEnd, id: id})
		wantAlike(t, x, m, call{doBegin, id + 100, 7})
		wantAlike(t, x, m, call{doBegin, id, 7})
	}
	wantSame(t, x, m)
}

// Some that are halted, and some that were told, are there still.
func TestFullOfHalted(t *testing.T) {
	x := New()
	for id := range 64 {
		begin(t, x, -id, 0)
		set(t, x, -id, 1)
		if id < 32 {
			halt(t, x, -id, 0)
		}
	}
	if n := len(x.Due(1)); n != 32 {
		t.Errorf("%d were told; want 32", n)
	}
	wantErrno(t, "Begin", x.Begin(1, 0), api.ErrFull)
	end(t, x, -5)
	begin(t, x, 1, 0)
	wantErrno(t, "Begin", x.Begin(-5, 0), api.ErrFull)
}

func TestEnd(t *testing.T) {
	x := New()
	wantErrno(t, "End", x.End(4), api.ErrNone)
	begin(t, x, 4, 100)
	begin(t, x, 5, 100)
	set(t, x, 4, 10)
	set(t, x, 5, 20)
	end(t, x, 4)
	wantErrno(t, "End", x.End(4), api.ErrNone)
	wantNoNow(t, x, 4, 200)
	wantNext(t, x, 120)
	wantErrno(t, "Set", x.Set(4, 1), api.ErrNone)
	wantErrno(t, "Stop", x.Stop(4), api.ErrNone)
	wantErrno(t, "Halt", x.Halt(4, 1), api.ErrNone)
	wantErrno(t, "Go", x.Go(4, 1), api.ErrNone)
	wantDue(t, x, 200, 5)
	wantNow(t, x, 5, 130, 30)
}

// Behind its End it begins anew: another base, no timer, not halted.
func TestBeginBehindEnd(t *testing.T) {
	for _, halted := range []bool{false, true} {
		x := New()
		begin(t, x, 4, 100)
		set(t, x, 4, 10)
		if halted {
			halt(t, x, 4, 105)
		}
		end(t, x, 4)
		begin(t, x, 4, 300)
		wantNow(t, x, 4, 320, 20)
		wantNoNext(t, x)
		wantDue(t, x, 500)
		wantErrno(t, "Go", x.Go(4, 320), api.ErrState)
	}
}

// P21.2

func TestNow(t *testing.T) {
	x := New()
	begin(t, x, 1, 100)
	begin(t, x, 2, 150)
	for clock, want := range map[uint64]uint64{0: 0, 1: 0, 99: 0, 100: 0, 101: 1, 150: 50, 1 << 40: 1<<40 - 100, greatest - 1: greatest - 101, greatest: greatest - 100, greatest + 1: greatest - 100, 1 << 63: greatest - 100, math.MaxUint64: greatest - 100} {
		wantNow(t, x, 1, clock, want)
		wantNow(t, x, 2, clock, max(want, 50)-50)
		wantNoNow(t, x, 3, clock)
	}
}

// All edges as base and as clock, while it goes on, and while it is halted.
func TestNowAtEdges(t *testing.T) {
	for _, base := range edgeTimes {
		for _, clock := range edgeTimes {
			want := uint64(0)
			if counted(clock) > counted(base) {
				want = counted(clock) - counted(base)
			}
			x := New()
			begin(t, x, 0, base)
			wantNow(t, x, 0, clock, want)
			halt(t, x, 0, clock)
			for _, later := range edgeTimes {
				wantNow(t, x, 0, later, want)
			}
		}
	}
}

// Now changes nothing, and neither does Next.
func TestLooks(t *testing.T) {
	x, m := full(t)
	before := as(x)
	for _, id := range edgeInts {
		for _, clock := range edgeTimes {
			wantAlike(t, x, m, call{doNow, id, clock})
		}
		wantAlike(t, x, m, call{what: doNext})
	}
	wantAs(t, "Now", x, before)
	wantSame(t, x, m)
}

// P21.3

func TestSetAtEdges(t *testing.T) {
	for _, base := range edgeTimes {
		for _, at := range edgeTimes {
			x := New()
			begin(t, x, 1, base)
			set(t, x, 1, at)
			if counted(at) > greatest-counted(base) { // it lies behind the last clock
				wantNext(t, x, greatest)
				wantDue(t, x, greatest)
				wantDue(t, x, math.MaxUint64)
				wantNext(t, x, greatest)
				continue
			}
			when := counted(base) + counted(at)
			wantNext(t, x, when)
			if at > 0 {
				wantDue(t, x, when-1)
			}
			wantDue(t, x, when, 1)
			wantNoNext(t, x)
			wantDue(t, x, math.MaxUint64)
		}
	}
}

// What is set is in the place of what was, be it sooner or later, of a time that has come or not, and halted or not.
func TestSetTwice(t *testing.T) {
	for _, first := range []uint64{0, 10, 30, 40} {
		for _, second := range []uint64{0, 10, 30, 40} {
			for _, halted := range []bool{false, true} {
				x := New()
				begin(t, x, 1, 100)
				if halted {
					halt(t, x, 1, 120)
				}
				set(t, x, 1, first)
				set(t, x, 1, second)
				if halted {
					wantNoNext(t, x)
					wantDue(t, x, 500)
					goOn(t, x, 1, 120)
				}
				wantNext(t, x, 100+second)
				if second > 0 {
					wantDue(t, x, 99+second)
				}
				wantDue(t, x, 100+second, 1)
				wantDue(t, x, 500)
			}
		}
	}
}

// A timer whose time has come already is told by the next Due, and may be set again.
func TestSetBehind(t *testing.T) {
	x := New()
	begin(t, x, 1, 100)
	for _, at := range []uint64{0, 1, 49, 50} {
		set(t, x, 1, at)
		wantNext(t, x, 100+at)
		wantDue(t, x, 150, 1)
		wantDue(t, x, 150)
		wantNoNext(t, x)
	}
	set(t, x, 1, 51)
	wantDue(t, x, 150)
	wantDue(t, x, 151, 1)
}

func TestStop(t *testing.T) {
	x := New()
	wantErrno(t, "Stop", x.Stop(1), api.ErrNone)
	begin(t, x, 1, 100)
	begin(t, x, 2, 100)
	before := as(x)
	stop(t, x, 1)
	wantAs(t, "Stop of what is not set", x, before)
	set(t, x, 1, 10)
	set(t, x, 2, 20)
	stop(t, x, 1)
	wantNext(t, x, 120)
	stop(t, x, 1)
	wantDue(t, x, 120, 2)
	wantNow(t, x, 1, 130, 30)
	set(t, x, 1, 40)
	wantNext(t, x, 140)
	halt(t, x, 1, 110)
	stop(t, x, 1)
	goOn(t, x, 1, 110)
	wantNoNext(t, x)
	wantDue(t, x, 500)
}

func TestHaltAndGo(t *testing.T) {
	x := New()
	wantErrno(t, "Halt", x.Halt(1, 0), api.ErrNone)
	wantErrno(t, "Go", x.Go(1, 0), api.ErrNone)
	begin(t, x, 1, 100)
	wantErrno(t, "Go", x.Go(1, 110), api.ErrState)
	wantNow(t, x, 1, 120, 20)
	halt(t, x, 1, 130)
	before := as(x)
	for _, clock := range edgeTimes {
		wantErrno(t, "Halt", x.Halt(1, clock), api.ErrState)
		wantNow(t, x, 1, clock, 30)
	}
	wantAs(t, "Halt", x, before)
	goOn(t, x, 1, 200)
	before = as(x)
	for _, clock := range edgeTimes {
		wantErrno(t, "Go", x.Go(1, clock), api.ErrState)
	}
	wantAs(t, "Go", x, before)
	wantNow(t, x, 1, 200, 30)
	wantNow(t, x, 1, 170, 0)
	wantNow(t, x, 1, 260, 90)
	halt(t, x, 1, 260)
	goOn(t, x, 1, 260)
	wantNow(t, x, 1, 300, 130)
	wantErrno(t, "Go", x.Go(1, 300), api.ErrState)
}

// Halted behind the base its time stands at 0.
func TestHaltBelowBase(t *testing.T) {
	for _, clock := range []uint64{0, 1, 99, 100} {
		x := New()
		begin(t, x, 1, 100)
		set(t, x, 1, 5)
		halt(t, x, 1, clock)
		wantNow(t, x, 1, 500, 0)
		goOn(t, x, 1, 300)
		wantNow(t, x, 1, 302, 2)
		wantNext(t, x, 305)
	}
}

// The base behind Go is the clock less the time, or 0.
func TestGoAtEdges(t *testing.T) {
	for _, stood := range edgeTimes {
		for _, clock := range edgeTimes {
			x, base := New(), uint64(0)
			if counted(clock) > counted(stood) {
				base = counted(clock) - counted(stood)
			}
			begin(t, x, 1, 0)
			halt(t, x, 1, stood)
			goOn(t, x, 1, clock)
			wantNow(t, x, 1, base, 0)
			wantNow(t, x, 1, greatest, greatest-base)
			wantNow(t, x, 1, math.MaxUint64, greatest-base)
			set(t, x, 1, 0)
			wantNext(t, x, base)
		}
	}
}

// Go with a clock below the base that it had: it goes on from where it stood.
func TestGoBelowBase(t *testing.T) {
	x := New()
	begin(t, x, 1, 100)
	set(t, x, 1, 40)
	halt(t, x, 1, 130)
	goOn(t, x, 1, 50)
	wantNow(t, x, 1, 50, 30)
	wantNow(t, x, 1, 55, 35)
	wantNext(t, x, 60)
	halt(t, x, 1, 58)
	wantNow(t, x, 1, 0, 38)
	goOn(t, x, 1, 7) // below the time at which it stands
	wantNow(t, x, 1, 0, 0)
	wantNow(t, x, 1, 39, 39)
	wantNext(t, x, 40)
	wantDue(t, x, 39)
	wantDue(t, x, 40, 1)
}

// P21.4

func TestNext(t *testing.T) {
	x := New()
	wantNoNext(t, x)
	begin(t, x, 1, 100)
	begin(t, x, 2, 200)
	begin(t, x, 3, 0)
	wantNoNext(t, x)
	set(t, x, 2, 5)
	wantNext(t, x, 205)
	set(t, x, 1, 105)
	wantNext(t, x, 205)
	set(t, x, 3, 204)
	wantNext(t, x, 204)
	set(t, x, 3, 206)
	wantNext(t, x, 205)
	halt(t, x, 1, 100)
	wantNext(t, x, 205)
	halt(t, x, 2, 200)
	wantNext(t, x, 206)
	halt(t, x, 3, 0)
	wantNoNext(t, x)
	goOn(t, x, 2, 1000)
	wantNext(t, x, 1005)
	goOn(t, x, 3, 10)
	wantNext(t, x, 216)
	end(t, x, 3)
	wantNext(t, x, 1005)
}

// What lies beyond the last clock counts as that one, and is never told; what lies at it is.
func TestNextBeyondTheLast(t *testing.T) {
	x := New()
	begin(t, x, 1, greatest)
	begin(t, x, 2, greatest-10)
	begin(t, x, 3, 0)
	set(t, x, 1, math.MaxUint64)
	wantNext(t, x, greatest)
	set(t, x, 2, 11)
	wantNext(t, x, greatest)
	wantDue(t, x, math.MaxUint64)
	set(t, x, 3, math.MaxUint64)
	wantNext(t, x, greatest)
	wantDue(t, x, greatest-1)
	wantDue(t, x, greatest, 3)
	set(t, x, 2, 10)
	wantDue(t, x, greatest-1)
	wantDue(t, x, math.MaxUint64, 2)
	set(t, x, 1, 0)
	wantDue(t, x, greatest-1, 1) // a clock below the base counts as the base
	wantNoNext(t, x)
}

// Due is rising, whatever the order in which they began, and in which their timers were set.
func TestDueRises(t *testing.T) {
	rising := slices.Sorted(slices.Values(edgeInts))
	for seed := range 50 {
		s, x := scatter(seed), New()
		ids := slices.Clone(edgeInts)
		for i := range ids {
			j := s.from(i, len(ids)-1)
			ids[i], ids[j] = ids[j], ids[i]
			begin(t, x, ids[i], 0)
		}
		for i := range ids {
			set(t, x, ids[len(ids)-1-i], uint64(s.from(0, 20)))
		}
		wantDue(t, x, 20, rising...)
		wantDue(t, x, 20)
		wantNoNext(t, x)
	}
}

// At the time, one ahead of it, and behind it; twice at one clock; of who is halted.
func TestDue(t *testing.T) {
	x := New()
	for id := range 4 {
		begin(t, x, id, 100)
		set(t, x, id, uint64(10*id))
	}
	wantDue(t, x, 100, 0)
	wantDue(t, x, 100)
	wantDue(t, x, 109)
	wantDue(t, x, 110, 1)
	wantDue(t, x, 110)
	halt(t, x, 2, 115)
	wantDue(t, x, 200, 3)
	wantDue(t, x, 200)
	wantNoNext(t, x)
	goOn(t, x, 2, 300)
	wantNext(t, x, 305)
	wantDue(t, x, 304)
	wantDue(t, x, 305, 2)
	wantNoNext(t, x)
	for id := range 4 {
		wantNow(t, x, 3-id, 400, []uint64{300, 115, 300, 300}[id])
	}
}

// A clock that goes back: who was told is told no more, who was not is not yet.
func TestDueOfAClockThatGoesBack(t *testing.T) {
	x := New()
	begin(t, x, 1, 100)
	begin(t, x, 2, 100)
	begin(t, x, 3, 100)
	set(t, x, 1, 10)
	set(t, x, 2, 20)
	wantDue(t, x, 115, 1)
	wantDue(t, x, 50)
	wantDue(t, x, 0)
	set(t, x, 3, 0)
	wantDue(t, x, 0, 3) // a clock below the base counts as the base
	set(t, x, 1, 10)
	wantDue(t, x, 109)
	wantDue(t, x, 110, 1)
	wantDue(t, x, 119)
	wantDue(t, x, 120, 2)
}

func TestDueAtEdges(t *testing.T) {
	for _, clock := range edgeTimes {
		x := New()
		var want []int
		for id, at := range edgeTimes {
			begin(t, x, id, 100)
			set(t, x, id, at)
			if at == 0 || counted(clock) >= 100 && counted(clock)-100 >= counted(at) {
				want = append(want, id)
			}
		}
		wantDue(t, x, clock, want...)
		wantDue(t, x, clock)
	}
}

// What Due hands out is nobody else's (DOC.md, rule 4).
func TestDueIsNew(t *testing.T) {
	x := New()
	for id := range 5 {
		begin(t, x, id, 0)
		set(t, x, id, 10+uint64(id/3))
	}
	first := x.Due(10)
	spare := first[:cap(first)]
	for i := range spare {
		spare[i] = 77
	}
	wantDue(t, x, 11, 3, 4)
	for i := range spare {
		if spare[i] != 77 {
			t.Errorf("a later call wrote %d into a list that was handed out", spare[i])
		}
	}
	wantNoNow(t, x, 77, 20)
}

// P21.5

func TestToldOnce(t *testing.T) {
	x := New()
	begin(t, x, 1, 100)
	set(t, x, 1, 10)
	told := 0
	for clock := range uint64(1000) {
		told += len(x.Due(clock))
		told += len(x.Due(clock))
	}
	if told != 1 {
		t.Errorf("told %d times; want 1", told)
	}
}

// Halted for a while, once and again, it has its timer later by as long as that.
func TestHaltedHasItLater(t *testing.T) {
	for first := range uint64(15) {
		for second := range uint64(15) {
			x := New()
			begin(t, x, 1, 100)
			begin(t, x, 2, 100)
			set(t, x, 1, 10)
			set(t, x, 2, 10)
			halt(t, x, 1, 103)
			goOn(t, x, 1, 103+first)
			halt(t, x, 1, 104+first)
			goOn(t, x, 1, 104+first+second)
			wantNow(t, x, 1, 104+first+second, 4)
			later := first + second
			if wantDue(t, x, 109); later == 0 {
				wantDue(t, x, 110, 1, 2)
				continue
			}
			wantDue(t, x, 110, 2)
			wantNext(t, x, 110+later)
			wantDue(t, x, 109+later)
			wantDue(t, x, 110+later, 1)
			wantDue(t, x, 1000)
		}
	}
}

// All calls that tell an error, each at all clocks: none of them has changed anything.
func TestErrorsChangeNothing(t *testing.T) {
	x, m := full(t)
	before := as(x)
	refused := 0
	for what := doBegin; what <= doEnd; what++ {
		for id := -3; id < 70; id++ {
			for _, when := range edgeTimes {
				k := call{what, id, when}
				trial := &model{all: slices.Clone(m.all)}
				if trial.ask(k).e == api.OK {
					continue
				}
				wantAlike(t, x, m, k)
				wantAs(t, k, x, before)
				refused++
			}
		}
	}
	if refused < 1000 {
		t.Errorf("only %d were refused", refused)
	}
	wantSame(t, x, m)
}
