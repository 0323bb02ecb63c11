package credit

import (
	"maps"
	"math"
	"slices"
	"testing"

	"palisade/api"
)

// edgeInts are ids, cores, weights and numbers at both ends of int, and some between.
var edgeInts = []int{math.MinInt, math.MinInt + 1, -1 << 32, math.MinInt32 - 1, math.MinInt32, -1 << 20, -257, -65, -64, -9, -8, -2, -1, 0, 1, 2, 7, 8, 9, 63, 64, 65, 255, 256, 257, 1<<20 - 1, 1 << 20, 1<<20 + 1, math.MaxInt32, math.MaxInt32 + 1, 1 << 32, 1<<32 + 1, 1 << 62, math.MaxInt - 1, math.MaxInt}

// wrongCores are none of so many cores.
func wrongCores(cores int) []int {
	wrong := []int{}
	for _, core := range append(slices.Clone(edgeInts), cores, cores+1, -cores) {
		if core < 0 || core >= cores {
			wrong = append(wrong, core)
		}
	}
	return wrong
}

func wantErrno(t *testing.T, what string, e, want api.Errno) {
	t.Helper()
	if e != want {
		t.Errorf("%s = %d; want %d", what, int(e), int(want))
	}
}

func fresh(t *testing.T, cores, period int) *Credit {
	t.Helper()
	c, e := New(cores, period)
	if c == nil || e != api.OK {
		t.Fatalf("New(%d, %d) = %p, %d; want 0", cores, period, c, int(e))
	}
	return c
}

func add(t *testing.T, c *Credit, id, weight, core int) {
	t.Helper()
	if e := c.Add(id, weight, core); e != api.OK {
		t.Errorf("Add(%d, %d, %d) = %d; want 0", id, weight, core, int(e))
	}
}

func remove(t *testing.T, c *Credit, id int) {
	t.Helper()
	if e := c.Remove(id); e != api.OK {
		t.Errorf("Remove(%d) = %d; want 0", id, int(e))
	}
}

func wake(t *testing.T, c *Credit, id int) {
	t.Helper()
	if e := c.Wake(id); e != api.OK {
		t.Errorf("Wake(%d) = %d; want 0", id, int(e))
	}
}

func block(t *testing.T, c *Credit, id int) {
	t.Helper()
	if e := c.Block(id); e != api.OK {
		t.Errorf("Block(%d) = %d; want 0", id, int(e))
	}
}

func charge(t *testing.T, c *Credit, core, n int) {
	t.Helper()
	if e := c.Charge(core, n); e != api.OK {
		t.Errorf("Charge(%d, %d) = %d; want 0", core, n, int(e))
	}
}

func refill(t *testing.T, c *Credit) {
	t.Helper()
	if e := c.Refill(); e != api.OK {
		t.Errorf("Refill = %d; want 0", int(e))
	}
}

func pick(t *testing.T, c *Credit, core, want int) {
	t.Helper()
	if id, ok, e := c.Pick(core); id != want || !ok || e != api.OK {
		t.Errorf("Pick(%d) = %d, %v, %d; want %d, true, 0", core, id, ok, int(e), want)
	}
}

func pickNobody(t *testing.T, c *Credit, core int, want api.Errno) {
	t.Helper()
	if id, ok, e := c.Pick(core); id != 0 || ok || e != want {
		t.Errorf("Pick(%d) = %d, %v, %d; want 0, false, %d", core, id, ok, int(e), int(want))
	}
}

func yield(t *testing.T, c *Credit, core, want int) {
	t.Helper()
	if id, e := c.Yield(core); id != want || e != api.OK {
		t.Errorf("Yield(%d) = %d, %d; want %d, 0", core, id, int(e), want)
	}
}

func yieldNobody(t *testing.T, c *Credit, core int, want api.Errno) {
	t.Helper()
	if id, e := c.Yield(core); id != 0 || e != want {
		t.Errorf("Yield(%d) = %d, %d; want 0, %d", core, id, int(e), int(want))
	}
}

func wantOver(t *testing.T, c *Credit, core int, want bool) {
	t.Helper()
	if over := c.Over(core); over != want {
		t.Errorf("Over(%d) = %v; want %v", core, over, want)
	}
}

func wantLook(t *testing.T, c *Credit, id int, want Look) {
	t.Helper()
	if look, ok := c.Look(id); look != want || !ok {
		t.Errorf("Look(%d) = %+v, %v; want %+v, true", id, look, ok, want)
	}
}

func wantNoLook(t *testing.T, c *Credit, id int) {
	t.Helper()
	if look, ok := c.Look(id); look != (Look{}) || ok {
		t.Errorf("Look(%d) = %+v, %v; want zeros, false", id, look, ok)
	}
}

func wantCredit(t *testing.T, c *Credit, id, want int) {
	t.Helper()
	if look, ok := c.Look(id); look.Credit != want || !ok {
		t.Errorf("the credit of %d is %d, %v; want %d, true", id, look.Credit, ok, want)
	}
}

func wantQueue(t *testing.T, c *Credit, core int, ids ...int) {
	t.Helper()
	if queue := c.Queue(core); !slices.Equal(queue, ids) {
		t.Errorf("Queue(%d) = %v; want %v", core, queue, ids)
	}
}

func wantRuns(t *testing.T, c *Credit, core, want int) {
	t.Helper()
	if id, ok := c.Runs(core); id != want || !ok {
		t.Errorf("Runs(%d) = %d, %v; want %d, true", core, id, ok, want)
	}
}

func wantNoRuns(t *testing.T, c *Credit, core int) {
	t.Helper()
	if id, ok := c.Runs(core); id != 0 || ok {
		t.Errorf("Runs(%d) = %d, %v; want 0, false", core, id, ok)
	}
}

// give lets one that is under, and alone ready on its core, have no more than a credit: it runs there, and is blocked then.
func give(t *testing.T, c *Credit, id, credit int) {
	t.Helper()
	look, _ := c.Look(id)
	pick(t, c, look.Core, id)
	charge(t, c, look.Core, look.Credit-credit)
	block(t, c, id)
	wantCredit(t, c, id, credit)
}

// laid is a scheduler with queues of some credits, one a core; an id tells the core and the place: 10*core+place.
func laid(t *testing.T, period int, cores ...[]int) *Credit {
	t.Helper()
	c := fresh(t, len(cores), period)
	for core, credits := range cores {
		for at, credit := range credits {
			add(t, c, 10*core+at, 1, core)
			give(t, c, 10*core+at, credit)
		}
	}
	for core, credits := range cores {
		for at := range credits {
			wake(t, c, 10*core+at)
		}
	}
	return c
}

// as is all that a scheduler keeps.
func as(c *Credit) Credit {
	before := Credit{ones: maps.Clone(c.ones), places: slices.Clone(c.places), period: c.period}
	for i := range before.places {
		before.places[i].queue = slices.Clone(before.places[i].queue)
	}
	return before
}

// wantAs looks whether it keeps what it kept.
func wantAs(t *testing.T, what any, c *Credit, before Credit) {
	t.Helper()
	same := func(a, b place) bool {
		return slices.Equal(a.queue, b.queue) && a.taken == b.taken && a.id == b.id && a.charged == b.charged
	}
	if !maps.Equal(c.ones, before.ones) || !slices.EqualFunc(c.places, before.places, same) || c.period != before.period {
		t.Errorf("%+v changed something: %+v, then %+v", what, before, *c)
	}
}

// The chapter's example.

func TestExample(t *testing.T) {
	c := fresh(t, 1, 10)
	add(t, c, 1, 1, 0)
	add(t, c, 2, 3, 0)
	pick(t, c, 0, 1)
	charge(t, c, 0, 5)
	yield(t, c, 0, 1)
	pick(t, c, 0, 2)
	refill(t, c)
	wantLook(t, c, 1, Look{State: Ready, Core: 0, Weight: 1, Credit: -3})
	wantLook(t, c, 2, Look{State: Running, Core: 0, Weight: 3, Credit: 7})
}

// DOC.md, rule 1: of nil, and of one that no call made.

func TestNobodys(t *testing.T) {
	for _, c := range []*Credit{nil, {}} {
		for _, a := range edgeInts {
			for _, b := range edgeInts {
				wantErrno(t, "Add", c.Add(a, b, 0), api.ErrNil)
				wantErrno(t, "Add", c.Add(a, 1, b), api.ErrNil)
				wantErrno(t, "Charge", c.Charge(a, b), api.ErrNil)
			}
			wantErrno(t, "Remove", c.Remove(a), api.ErrNil)
			wantErrno(t, "Wake", c.Wake(a), api.ErrNil)
			wantErrno(t, "Block", c.Block(a), api.ErrNil)
			pickNobody(t, c, a, api.ErrNil)
			yieldNobody(t, c, a, api.ErrNil)
			wantOver(t, c, a, false)
			wantNoLook(t, c, a)
			wantQueue(t, c, a)
			wantNoRuns(t, c, a)
		}
		wantErrno(t, "Refill", c.Refill(), api.ErrNil)
		if c != nil && (c.ones != nil || c.places != nil || c.period != 0) {
			t.Errorf("calls of one that no call made changed it: %+v", *c)
		}
	}
}

// P22.1

func TestNew(t *testing.T) {
	for _, cores := range append(slices.Clone(edgeInts), 3, 4, 5, 6) {
		for _, period := range edgeInts {
			c, e := New(cores, period)
			if cores < 1 || cores > api.MaxCores || period < 1 || period > 1<<20 {
				if c != nil || e != api.ErrArg {
					t.Errorf("New(%d, %d) = %p, %d; want nil, 2", cores, period, c, int(e))
				}
				continue
			}
			if c == nil || e != api.OK {
				t.Fatalf("New(%d, %d) = %p, %d; want 0", cores, period, c, int(e))
			}
			wantErrno(t, "Refill", c.Refill(), api.OK)
			for core := range cores {
				wantQueue(t, c, core)
				wantNoRuns(t, c, core)
				wantOver(t, c, core, false)
				pickNobody(t, c, core, api.OK)
				yieldNobody(t, c, core, api.ErrNone)
				wantErrno(t, "Charge", c.Charge(core, 0), api.ErrNone)
			}
			for _, core := range wrongCores(cores) {
				pickNobody(t, c, core, api.ErrArg)
			}
		}
	}
}

// What one has, another does not.
func TestNewOnes(t *testing.T) {
	c, other := fresh(t, 2, 10), fresh(t, 2, 10)
	if c == other {
		t.Fatal("New told the same one twice")
	}
	add(t, c, 1, 1, 0)
	pick(t, c, 1, 1)
	wantNoLook(t, other, 1)
	wantNoRuns(t, other, 1)
	pickNobody(t, other, 1, api.OK)
	wantErrno(t, "Remove", other.Remove(1), api.ErrNone)
}

// Of each id: nobody is there, then it alone.
func TestAddOfAnyId(t *testing.T) {
	for _, id := range edgeInts {
		c := fresh(t, 3, 100)
		add(t, c, id, 7, 2)
		wantQueue(t, c, 2, id)
		for _, other := range edgeInts {
			if other == id {
				wantLook(t, c, id, Look{State: Ready, Core: 2, Weight: 7})
				continue
			}
			before := as(c)
			wantNoLook(t, c, other)
			wantErrno(t, "Remove", c.Remove(other), api.ErrNone)
			wantErrno(t, "Wake", c.Wake(other), api.ErrNone)
			wantErrno(t, "Block", c.Block(other), api.ErrNone)
			wantAs(t, other, c, before)
		}
		pick(t, c, 0, id)
		wantRuns(t, c, 0, id)
		yield(t, c, 0, id)
		block(t, c, id)
		wake(t, c, id)
		remove(t, c, id)
		wantNoLook(t, c, id)
	}
}

func TestAddOfAnyWeight(t *testing.T) {
	for _, weight := range edgeInts {
		c := fresh(t, 1, 100)
		add(t, c, 1, 1, 0)
		before := as(c)
		if weight < 1 || weight > 256 {
			wantErrno(t, "Add", c.Add(2, weight, 0), api.ErrArg)
			wantAs(t, weight, c, before)
			continue
		}
		add(t, c, 2, weight, 0)
		wantLook(t, c, 2, Look{State: Ready, Weight: weight})
		wantLook(t, c, 1, Look{State: Ready, Weight: 1})
	}
}

func TestAddToAnyCore(t *testing.T) {
	for cores := 1; cores <= api.MaxCores; cores++ {
		c := fresh(t, cores, 100)
		for core := range cores {
			add(t, c, core, 1, core)
			add(t, c, core+100, 2, core)
			wantQueue(t, c, core, core, core+100)
			wantLook(t, c, core+100, Look{State: Ready, Core: core, Weight: 2})
		}
		before := as(c)
		for _, core := range wrongCores(cores) {
			wantErrno(t, "Add", c.Add(-1, 1, core), api.ErrArg)
			wantAs(t, core, c, before)
		}
	}
}

func TestAddTwice(t *testing.T) {
	c := fresh(t, 2, 100)
	add(t, c, 5, 3, 0)
	add(t, c, 6, 3, 0)
	refused := func() {
		before := as(c)
		wantErrno(t, "Add", c.Add(5, 3, 0), api.ErrThere)
		wantErrno(t, "Add", c.Add(5, 4, 1), api.ErrThere)
		wantAs(t, "Add", c, before)
	}
	refused()
	pick(t, c, 1, 5)
	refused()
	block(t, c, 5)
	refused()
	wantLook(t, c, 5, Look{State: Blocked, Core: 1, Weight: 3})
}

// The 64th and the 65th, on one core and over all of them, and behind a Remove.
func TestAddMany(t *testing.T) {
	for _, cores := range []int{1, 3, api.MaxCores} {
		c := fresh(t, cores, 100)
		for id := range 64 {
			add(t, c, id, 1+id, id%cores)
		}
		before := as(c)
		wantErrno(t, "Add", c.Add(64, 1, 0), api.ErrFull)
		wantErrno(t, "Add", c.Add(-1, 256, cores-1), api.ErrFull)
		wantAs(t, "Add", c, before)
		pick(t, c, 0, 0)
		block(t, c, 1)
		wantErrno(t, "Add", c.Add(64, 1, 0), api.ErrFull)
		remove(t, c, 1)
		add(t, c, 64, 1, cores-1)
		wantErrno(t, "Add", c.Add(1, 1, 0), api.ErrFull)
		queue := c.Queue(cores - 1)
		if queue[len(queue)-1] != 64 {
			t.Errorf("with %d cores 64 is not the last one: %v", cores, queue)
		}
		block(t, c, 0)
		remove(t, c, 0)
		add(t, c, 1, 1, 0)
		wantErrno(t, "Add", c.Add(0, 1, 0), api.ErrFull)
	}
}

// Whoever is added again has nothing of what was there by this number.
func TestAddAgain(t *testing.T) {
	c := fresh(t, 2, 100)
	add(t, c, 1, 9, 1)
	give(t, c, 1, -50)
	remove(t, c, 1)
	wantNoLook(t, c, 1)
	wantQueue(t, c, 1)
	add(t, c, 2, 1, 0)
	add(t, c, 1, 2, 0)
	wantLook(t, c, 1, Look{State: Ready, Core: 0, Weight: 2})
	wantQueue(t, c, 0, 2, 1)
	wantQueue(t, c, 1)
}

func TestRemove(t *testing.T) {
	c := fresh(t, 2, 100)
	for id := range 5 {
		add(t, c, id, 1, 0)
	}
	pick(t, c, 0, 0)
	pick(t, c, 1, 1)
	block(t, c, 4)
	before := as(c)
	wantErrno(t, "Remove", c.Remove(0), api.ErrState)
	wantErrno(t, "Remove", c.Remove(1), api.ErrState)
	wantErrno(t, "Remove", c.Remove(5), api.ErrNone)
	wantAs(t, "Remove", c, before)
	remove(t, c, 2) // the first of its queue
	wantQueue(t, c, 0, 3)
	remove(t, c, 4)
	wantQueue(t, c, 0, 3)
	yield(t, c, 1, 1)
	remove(t, c, 1)
	wantQueue(t, c, 1)
	remove(t, c, 3)
	wantQueue(t, c, 0)
	for id := 1; id < 5; id++ {
		wantNoLook(t, c, id)
		wantErrno(t, "Remove", c.Remove(id), api.ErrNone)
		wantErrno(t, "Wake", c.Wake(id), api.ErrNone)
		wantErrno(t, "Block", c.Block(id), api.ErrNone)
	}
	wantRuns(t, c, 0, 0)
}

// From the front, the middle and the end of a queue.
func TestRemoveAnywhere(t *testing.T) {
	for gone := range 5 {
		c, left := fresh(t, 1, 100), []int{}
		for id := range 5 {
			add(t, c, id, 1, 0)
			if id != gone {
				left = append(left, id)
			}
		}
		remove(t, c, gone)
		wantQueue(t, c, 0, left...)
		add(t, c, gone, 1, 0)
		wantQueue(t, c, 0, append(left, gone)...)
	}
}

// P22.2

func TestWakeAndBlock(t *testing.T) {
	c := fresh(t, 3, 100)
	for id := range 4 {
		add(t, c, id, 1+id, 1)
	}
	wantErrno(t, "Wake", c.Wake(0), api.ErrState)
	pick(t, c, 2, 0)
	before := as(c)
	wantErrno(t, "Wake", c.Wake(0), api.ErrState)
	wantErrno(t, "Wake", c.Wake(4), api.ErrNone)
	wantErrno(t, "Block", c.Block(4), api.ErrNone)
	wantAs(t, "Wake", c, before)
	charge(t, c, 2, 30)
	block(t, c, 0) // it ran
	wantLook(t, c, 0, Look{State: Blocked, Core: 2, Weight: 1, Credit: -30})
	wantNoRuns(t, c, 2)
	wantQueue(t, c, 2)
	block(t, c, 2) // it was ready, in the middle
	wantLook(t, c, 2, Look{State: Blocked, Core: 1, Weight: 3})
	wantQueue(t, c, 1, 1, 3)
	before = as(c)
	wantErrno(t, "Block", c.Block(0), api.ErrState)
	wantErrno(t, "Block", c.Block(2), api.ErrState)
	wantAs(t, "Block", c, before)
	wake(t, c, 0)
	wantLook(t, c, 0, Look{State: Ready, Core: 2, Weight: 1, Credit: -30})
	wantQueue(t, c, 2, 0)
	wake(t, c, 2)
	wantLook(t, c, 2, Look{State: Ready, Core: 1, Weight: 3})
	wantQueue(t, c, 1, 1, 3, 2)
	wantErrno(t, "Wake", c.Wake(0), api.ErrState)
	wantErrno(t, "Wake", c.Wake(2), api.ErrState)
}

// A core whose one was blocked is free, and counts the next one's charges from 0 on.
func TestBlockOfTheRunning(t *testing.T) {
	c := fresh(t, 1, 10)
	add(t, c, 1, 1, 0)
	add(t, c, 2, 1, 0)
	pick(t, c, 0, 1)
	charge(t, c, 0, 10)
	wantOver(t, c, 0, true)
	block(t, c, 1)
	wantNoRuns(t, c, 0)
	wantOver(t, c, 0, false)
	wantErrno(t, "Charge", c.Charge(0, 1), api.ErrNone)
	yieldNobody(t, c, 0, api.ErrNone)
	wake(t, c, 1)
	pick(t, c, 0, 2)
	wantOver(t, c, 0, false)
}

// Nobody else is changed by one that waits.
func TestBlockedIsNotPicked(t *testing.T) {
	c := fresh(t, 2, 10)
	add(t, c, 1, 1, 0)
	block(t, c, 1)
	pickNobody(t, c, 0, api.OK)
	pickNobody(t, c, 1, api.OK)
	wantLook(t, c, 1, Look{State: Blocked, Weight: 1})
	wake(t, c, 1)
	pick(t, c, 1, 1)
	block(t, c, 1)
	pickNobody(t, c, 1, api.OK)
	wake(t, c, 1)
	wantQueue(t, c, 1, 1)
}

// P22.3

func TestPickErrors(t *testing.T) {
	c := fresh(t, 2, 10)
	add(t, c, 1, 1, 0)
	add(t, c, 2, 1, 0)
	pick(t, c, 0, 1)
	before := as(c)
	pickNobody(t, c, 0, api.ErrState)
	for _, core := range wrongCores(2) {
		pickNobody(t, c, core, api.ErrArg)
	}
	wantAs(t, "Pick", c, before)
	pick(t, c, 1, 2)
	before = as(c)
	pickNobody(t, c, 0, api.ErrState) // with nobody ready either
	pickNobody(t, c, 1, api.ErrState)
	wantAs(t, "Pick", c, before)
	yield(t, c, 0, 1)
	block(t, c, 1)
	pickNobody(t, c, 0, api.OK)
	wantNoRuns(t, c, 0)
}

// What a Pick leaves: one that is picked is in no queue, and its core is the one that picked.
func TestPickLeaves(t *testing.T) {
	c := fresh(t, 3, 10)
	add(t, c, 1, 5, 2)
	add(t, c, 2, 6, 2)
	pick(t, c, 0, 1)
	wantLook(t, c, 1, Look{State: Running, Core: 0, Weight: 5})
	wantRuns(t, c, 0, 1)
	wantNoRuns(t, c, 1)
	wantNoRuns(t, c, 2)
	wantQueue(t, c, 0)
	wantQueue(t, c, 2, 2)
	yield(t, c, 0, 1)
	wantLook(t, c, 1, Look{State: Ready, Core: 0, Weight: 5})
	wantQueue(t, c, 0, 1)
	wantQueue(t, c, 2, 2)
	pick(t, c, 2, 2)
	block(t, c, 2)
	pick(t, c, 2, 1)
	block(t, c, 1)
	wake(t, c, 1)
	wantQueue(t, c, 2, 1)
}

// Who is under has a credit of at least 0, whoever stands ahead of it.
func TestPickUnder(t *testing.T) {
	for _, x := range []struct {
		credits []int
		want    int
	}{
		{[]int{0, 0, 0}, 0},
		{[]int{-1, 0, 0}, 1},
		{[]int{-1, -1, 0}, 2},
		{[]int{-1, -1, -1}, 0},
		{[]int{-1, -10, -10}, 0},
		{[]int{-10, -1, -5}, 0},
		{[]int{-10, -10, 0}, 2},
		{[]int{-5, 0, -5}, 1},
	} {
		c := laid(t, 10, x.credits)
		wantQueue(t, c, 0, 0, 1, 2)
		pick(t, c, 0, x.want)
	}
}

// With the period itself, and just above 0.
func TestPickAtTheMost(t *testing.T) {
	c := fresh(t, 1, 10)
	add(t, c, 1, 1, 0)
	refill(t, c)
	wantCredit(t, c, 1, 10)
	add(t, c, 2, 1, 0)
	pick(t, c, 0, 1)
	charge(t, c, 0, 9)
	yield(t, c, 0, 1)
	wantQueue(t, c, 0, 2, 1)
	pick(t, c, 0, 2)
	charge(t, c, 0, 1)
	yield(t, c, 0, 2)
	wantQueue(t, c, 0, 1, 2)
	pick(t, c, 0, 1)
	charge(t, c, 0, 1)
	yield(t, c, 0, 1)
	pick(t, c, 0, 1) // at 0 it is under, behind one at -1
	charge(t, c, 0, 1)
	yield(t, c, 0, 1)
	pick(t, c, 0, 2) // both are at -1
}

// The four steps, one by one, with cores behind the one that picks, round from the last to the first.
func TestPickSteps(t *testing.T) {
	for _, x := range []struct {
		what  string
		cores [][]int
		core  int
		want  int
	}{
		{"1: the first under one of its own", [][]int{{-1, 0, 0}, {0}, {0}}, 0, 1},
		{"1: ahead of all others, on the last core", [][]int{{0}, {0}, {-2, 0}}, 2, 21},
		{"2: the next core's first under one", [][]int{{-1}, {-1, 0, 0}, {0}}, 0, 11},
		{"2: the next core but one", [][]int{{-1}, {-1, -1}, {-1, 0}}, 0, 21},
		{"2: with an empty queue of its own", [][]int{{}, {0}, {0}}, 0, 10},
		{"2: with an empty queue between", [][]int{{-1}, {}, {0}}, 0, 20},
		{"2: from the last core round to the first", [][]int{{0}, {0}, {-1}}, 2, 0},
		{"2: from the last core round beyond the first", [][]int{{-1}, {-1, 0}, {-1}}, 2, 11},
		{"2: from the one in the middle, behind ahead of round", [][]int{{0}, {-1}, {0}}, 1, 20},
		{"2: from the one in the middle round", [][]int{{0}, {-1}, {-1}}, 1, 0},
		{"3: the first one of its own", [][]int{{-9, -1, -2}, {-1}, {-1}}, 0, 0},
		{"3: on the last core", [][]int{{-1}, {-1}, {-10, -1}}, 2, 20},
		{"3: the only one", [][]int{{-10}}, 0, 0},
		{"4: the next core's first one", [][]int{{}, {-5, -1}, {-1}}, 0, 10},
		{"4: the next core but one", [][]int{{}, {}, {-10, -1}}, 0, 20},
		{"4: from the last core round to the first", [][]int{{-3, -1}, {-1}, {}}, 2, 0},
		{"4: from the last core round beyond the first", [][]int{{}, {-3, -1}, {}}, 2, 10},
		{"4: from the one in the middle", [][]int{{-1}, {}, {-10}}, 1, 20},
		{"4: from the one in the middle round", [][]int{{-10}, {}, {}}, 1, 0},
		{"four cores: one step behind", [][]int{{0}, {-1}, {-1}, {0}}, 2, 30},
		{"four cores: two steps behind", [][]int{{0}, {0}, {-1}, {-1}}, 2, 0},
		{"four cores: three steps behind", [][]int{{-1}, {0}, {-1}, {-1}}, 2, 10},
		{"one core alone: under", [][]int{{-1, -1, 0}}, 0, 2},
	} {
		c := laid(t, 10, x.cores...)
		before := as(c)
		pick(t, c, x.core, x.want)
		left := slices.DeleteFunc(c.Queue(x.want/10), func(id int) bool { return id == x.want })
		wantQueue(t, c, x.want/10, left...)
		look := before.ones[x.want]
		look.State, look.Core = Running, x.core
		wantLook(t, c, x.want, look)
		yield(t, c, x.core, x.want)
		if queue := c.Queue(x.core); queue[len(queue)-1] != x.want {
			t.Errorf("%s: behind Yield the queue is %v", x.what, queue)
		}
		if t.Failed() {
			t.Fatal(x.what)
		}
	}
}

// Who runs elsewhere is not picked, however much credit it has.
func TestPickNotTheRunning(t *testing.T) {
	c := laid(t, 10, []int{0}, []int{-1}, []int{})
	pick(t, c, 0, 0)
	pick(t, c, 2, 10)
	pickNobody(t, c, 1, api.OK)
	for core, id := range []int{0, -1, 10} {
		if id < 0 {
			wantNoRuns(t, c, core)
			continue
		}
		wantRuns(t, c, core, id)
	}
}

// Each pair of cores: whoever waits for one is had by the other.
func TestPickFromAnyCore(t *testing.T) {
	for cores := 1; cores <= api.MaxCores; cores++ {
		for from := range cores {
			for to := range cores {
				for _, credit := range []int{0, -1, -10} {
					c := fresh(t, cores, 10)
					add(t, c, 1, 1, from)
					give(t, c, 1, credit)
					wake(t, c, 1)
					pick(t, c, to, 1)
					wantLook(t, c, 1, Look{State: Running, Core: to, Weight: 1, Credit: credit})
				}
			}
		}
	}
}

// P22.4

func TestChargeErrors(t *testing.T) {
	c := fresh(t, 2, 10)
	add(t, c, 1, 1, 0)
	add(t, c, 2, 1, 0)
	pick(t, c, 0, 1)
	before := as(c)
	for _, n := range edgeInts {
		for _, core := range wrongCores(2) {
			wantErrno(t, "Charge", c.Charge(core, n), api.ErrArg)
		}
		want := api.ErrNone
		if n < 0 || n > 1<<20 {
			want = api.ErrArg
			wantErrno(t, "Charge", c.Charge(0, n), api.ErrArg)
		}
		wantErrno(t, "Charge", c.Charge(1, n), want)
	}
	wantAs(t, "Charge", c, before)
}

func TestCharge(t *testing.T) {
	for _, x := range []struct {
		period int
		ns     []int
		want   int
	}{
		{10, []int{0}, 0},
		{10, []int{0, 0}, 0},
		{10, []int{1}, -1},
		{10, []int{5, 3}, -8},
		{10, []int{9}, -9},
		{10, []int{10}, -10},
		{10, []int{11}, -10},
		{10, []int{10, 1}, -10},
		{10, []int{4, 7, 0}, -10},
		{10, []int{1 << 20}, -10},
		{10, []int{1 << 20, 1 << 20, 1 << 20}, -10},
		{1, []int{0}, 0},
		{1, []int{1}, -1},
		{1, []int{2}, -1},
		{1 << 20, []int{1 << 20}, -1 << 20},
		{1 << 20, []int{1<<20 - 1}, 1 - 1<<20},
		{1 << 20, []int{1<<20 - 1, 1}, -1 << 20},
		{1 << 20, []int{1<<20 - 1, 2}, -1 << 20},
		{1 << 20, []int{1 << 20, 1 << 20}, -1 << 20},
	} {
		c := fresh(t, 1, x.period)
		add(t, c, 1, 1, 0)
		add(t, c, 2, 1, 0)
		pick(t, c, 0, 1)
		for _, n := range x.ns {
			charge(t, c, 0, n)
		}
		wantLook(t, c, 1, Look{State: Running, Weight: 1, Credit: x.want})
		wantLook(t, c, 2, Look{State: Ready, Weight: 1})
		wantRuns(t, c, 0, 1)
	}
}

// From the most: a credit of the period, down to its opposite.
func TestChargeFromTheMost(t *testing.T) {
	for _, x := range [][2]int{{0, 10}, {1, 9}, {9, 1}, {10, 0}, {11, -1}, {19, -9}, {20, -10}, {21, -10}, {1 << 20, -10}} {
		c := fresh(t, 1, 10)
		add(t, c, 1, 1, 0)
		refill(t, c)
		pick(t, c, 0, 1)
		charge(t, c, 0, x[0])
		wantCredit(t, c, 1, x[1])
	}
}

// Each core has its own one charged.
func TestChargeOfEachCore(t *testing.T) {
	c := fresh(t, api.MaxCores, 100)
	for core := range api.MaxCores {
		add(t, c, core, 1, core)
	}
	for core := range api.MaxCores {
		pick(t, c, core, core)
	}
	for core := range api.MaxCores {
		charge(t, c, core, core*5)
	}
	for core := range api.MaxCores {
		wantCredit(t, c, core, -core*5)
	}
}

func TestYield(t *testing.T) {
	c := fresh(t, 2, 10)
	add(t, c, 1, 1, 0)
	add(t, c, 2, 1, 0)
	add(t, c, 3, 1, 0)
	pick(t, c, 0, 1)
	before := as(c)
	for _, core := range wrongCores(2) {
		yieldNobody(t, c, core, api.ErrArg)
	}
	yieldNobody(t, c, 1, api.ErrNone)
	wantAs(t, "Yield", c, before)
	yield(t, c, 0, 1)
	wantQueue(t, c, 0, 2, 3, 1)
	wantNoRuns(t, c, 0)
	wantLook(t, c, 1, Look{State: Ready, Weight: 1})
	yieldNobody(t, c, 0, api.ErrNone)
	pick(t, c, 1, 2) // of the other core's queue
	charge(t, c, 1, 4)
	yield(t, c, 1, 2)
	wantQueue(t, c, 0, 3, 1)
	wantQueue(t, c, 1, 2)
	wantLook(t, c, 2, Look{State: Ready, Core: 1, Weight: 1, Credit: -4})
	for _, id := range []int{3, 1} {
		remove(t, c, id)
	}
	pick(t, c, 1, 2) // alone
	yield(t, c, 1, 2)
	wantQueue(t, c, 1, 2)
}

// Yield behind each call that lets nobody run, or somebody.
func TestYieldBehind(t *testing.T) {
	c := fresh(t, 1, 10)
	yieldNobody(t, c, 0, api.ErrNone)
	add(t, c, 1, 1, 0)
	yieldNobody(t, c, 0, api.ErrNone)
	pick(t, c, 0, 1)
	charge(t, c, 0, 1<<20)
	yield(t, c, 0, 1)
	refill(t, c)
	yieldNobody(t, c, 0, api.ErrNone)
	pick(t, c, 0, 1)
	refill(t, c)
	yield(t, c, 0, 1)
	pick(t, c, 0, 1)
	block(t, c, 1)
	yieldNobody(t, c, 0, api.ErrNone)
	wake(t, c, 1)
	yieldNobody(t, c, 0, api.ErrNone)
	remove(t, c, 1)
	yieldNobody(t, c, 0, api.ErrNone)
	wantQueue(t, c, 0)
}

func TestOverNobody(t *testing.T) {
	c := laid(t, 10, []int{0, -1}, []int{-1, 0})
	wantOver(t, c, 0, false)
	wantOver(t, c, 1, false)
	for _, core := range wrongCores(2) {
		wantOver(t, c, core, false)
	}
}

// The first case: who runs is not under, while somebody of the queue is.
func TestOverUnder(t *testing.T) {
	for _, x := range []struct {
		charged int
		queue   []int
		want    bool
	}{
		{0, []int{}, false},
		{1, []int{}, false},
		{0, []int{0, 0}, false},
		{1, []int{0}, true},
		{1, []int{-1}, false},
		{1, []int{-1, -2, 0}, true},
		{9, []int{0, -1}, true},
		{9, []int{-1, -1}, false},
		{9, []int{-10}, false},
		{0, []int{-10}, false},
	} {
		c := laid(t, 10, x.queue, []int{0, 0})
		for at := range x.queue {
			block(t, c, at)
		}
		add(t, c, 99, 1, 0)
		pick(t, c, 0, 99)
		for at := range x.queue {
			wake(t, c, at)
		}
		charge(t, c, 0, x.charged)
		if c.Over(0) != x.want {
			t.Errorf("charged %d, beside %v: Over = %v", x.charged, x.queue, !x.want)
		}
	}
}

// The second case: who runs was charged the period or more, while anybody is in the queue.
func TestOverCharged(t *testing.T) {
	for _, x := range []struct {
		charges []int
		queue   bool
		want    bool
	}{
		{[]int{0}, true, false},
		{[]int{9}, true, false},
		{[]int{10}, true, true},
		{[]int{11}, true, true},
		{[]int{1 << 20}, true, true},
		{[]int{5, 4}, true, false},
		{[]int{5, 5}, true, true},
		{[]int{5, 4, 0, 1}, true, true},
		{[]int{5, 4, 0, 0}, true, false},
		{[]int{1, 1, 1, 1, 1, 1, 1, 1, 1}, true, false},
		{[]int{1, 1, 1, 1, 1, 1, 1, 1, 1, 1}, true, true},
		{[]int{10}, false, false},
		{[]int{1 << 20, 1 << 20}, false, false},
	} {
		c := laid(t, 10, []int{-5}, []int{0}) // nobody of the queue is under
		if !x.queue {
			block(t, c, 0)
		}
		pick(t, c, 0, 10)
		add(t, c, 99, 1, 1) // of another core: it counts for nothing
		for _, n := range x.charges {
			charge(t, c, 0, n)
		}
		if c.Over(0) != x.want {
			t.Errorf("charged %v: Over = %v", x.charges, !x.want)
		}
	}
}

// What was charged ahead of a Pick does not count, and a Refill takes nothing of it away.
func TestOverSincePicked(t *testing.T) {
	c := fresh(t, 1, 10)
	add(t, c, 1, 1, 0)
	refill(t, c)
	pick(t, c, 0, 1)
	charge(t, c, 0, 6)
	yield(t, c, 0, 1)
	pick(t, c, 0, 1)
	add(t, c, 2, 1, 0)
	charge(t, c, 0, 4)
	wantOver(t, c, 0, false) // 4 of 10, at 0
	refill(t, c)
	charge(t, c, 0, 5)
	wantOver(t, c, 0, false) // 9 of 10, at 0
	refill(t, c)
	wantCredit(t, c, 1, 5)
	charge(t, c, 0, 1)
	wantCredit(t, c, 1, 4)
	wantOver(t, c, 0, true) // 10 of 10, though it is under
	block(t, c, 2)
	wantOver(t, c, 0, false)
	wake(t, c, 2)
	wantOver(t, c, 0, true)
	refill(t, c)
	wantOver(t, c, 0, true)
	yield(t, c, 0, 1)
	wantOver(t, c, 0, false)
	pick(t, c, 0, 2)
	wantOver(t, c, 0, false)
	charge(t, c, 0, 10)
	wantOver(t, c, 0, true)
}

// Over of one core hangs on no other one.
func TestOverOfEachCore(t *testing.T) {
	c := laid(t, 10, []int{0, 0}, []int{0, -1}, []int{0})
	for core := range 3 {
		pick(t, c, core, 10*core)
		charge(t, c, core, 1)
	}
	wantOver(t, c, 0, true)
	wantOver(t, c, 1, false)
	wantOver(t, c, 2, false)
	charge(t, c, 1, 9)
	charge(t, c, 2, 9)
	wantOver(t, c, 1, true)
	wantOver(t, c, 2, false)
}

// P22.5

func TestRefill(t *testing.T) {
	for _, x := range []struct {
		period  int
		weights []int
		want    []int
	}{
		{10, []int{1}, []int{10}},
		{10, []int{256}, []int{10}},
		{10, []int{1, 3}, []int{2, 7}},
		{10, []int{3, 1}, []int{7, 2}},
		{10, []int{1, 1, 1}, []int{3, 3, 3}},
		{10, []int{1, 1}, []int{5, 5}},
		{11, []int{1, 1}, []int{5, 5}},
		{10, []int{1, 9}, []int{1, 9}},
		{10, []int{1, 10}, []int{1, 9}},
		{10, []int{1, 19}, []int{1, 9}},
		{10, []int{2, 18}, []int{1, 9}},
		{10, []int{1, 256}, []int{1, 9}},
		{1, []int{1, 1}, []int{1, 1}},
		{1, []int{1, 256}, []int{1, 1}},
		{256, []int{1, 256}, []int{1, 255}},
		{257, []int{1, 256}, []int{1, 256}},
		{514, []int{1, 256}, []int{2, 512}},
		{1 << 20, []int{256}, []int{1 << 20}},
		{1 << 20, []int{256, 256}, []int{1 << 19, 1 << 19}},
		{1 << 20, []int{1, 256}, []int{4080, 1044495}},
		{1 << 20, []int{7, 11, 13}, []int{236775, 372075, 439725}},
	} {
		c := fresh(t, 3, x.period)
		for id, weight := range x.weights {
			add(t, c, id, weight, id)
		}
		refill(t, c)
		for id, weight := range x.weights {
			wantLook(t, c, id, Look{State: Ready, Core: id, Weight: weight, Credit: x.want[id]})
		}
		wantRefillsTo(t, c, x.period, x.want)
	}
}

// wantRefillsTo refills till all have the most.
func wantRefillsTo(t *testing.T, c *Credit, period int, grow []int) {
	t.Helper()
	for times := 2; times < 14; times++ {
		refill(t, c)
		for id, each := range grow {
			wantCredit(t, c, id, min(times*each, period))
		}
	}
}

// Whoever is there counts, and grows: ready, running or blocked; whoever is removed does not.
func TestRefillOfAll(t *testing.T) {
	c := fresh(t, 2, 100)
	refill(t, c) // nobody
	for id := range 4 {
		add(t, c, id, 5, 0)
	}
	pick(t, c, 1, 0)
	block(t, c, 1)
	refill(t, c)
	for id := range 4 {
		wantCredit(t, c, id, 25)
	}
	remove(t, c, 1)
	remove(t, c, 2)
	refill(t, c)
	wantCredit(t, c, 0, 75)
	wantCredit(t, c, 3, 75)
	wantLook(t, c, 0, Look{State: Running, Core: 1, Weight: 5, Credit: 75})
	wantQueue(t, c, 0, 3)
	refill(t, c)
	wantCredit(t, c, 0, 100)
	wantCredit(t, c, 3, 100)
	block(t, c, 0)
	remove(t, c, 0)
	remove(t, c, 3)
	refill(t, c)
	for id := range 4 {
		wantNoLook(t, c, id)
	}
}

// From debts: through 0 up to the most.
func TestRefillFromBelow(t *testing.T) {
	for _, x := range [][2]int{{-10, -3}, {-8, -1}, {-7, 0}, {-6, 1}, {-1, 6}, {0, 7}} {
		c := fresh(t, 1, 10)
		add(t, c, 1, 3, 0)
		give(t, c, 1, x[0])
		add(t, c, 2, 1, 0)
		refill(t, c)
		wantCredit(t, c, 1, x[1])
		wantCredit(t, c, 2, 2)
	}
}

// 64 of them: each one's share is below 1.
func TestRefillOfMany(t *testing.T) {
	c := fresh(t, 8, 10)
	for id := range 64 {
		add(t, c, id, 256, id%8)
	}
	for times := 1; times < 13; times++ {
		refill(t, c)
		for id := range 64 {
			wantCredit(t, c, id, min(times, 10))
		}
	}
}

// P22.6

func TestLooks(t *testing.T) {
	c := fresh(t, 2, 10)
	add(t, c, 3, 4, 1)
	add(t, c, 0, 5, 1) // an id of 0 runs as any other
	wantLook(t, c, 3, Look{State: Ready, Core: 1, Weight: 4})
	wantQueue(t, c, 0)
	wantQueue(t, c, 1, 3, 0)
	wantNoRuns(t, c, 1)
	pick(t, c, 1, 3)
	pick(t, c, 0, 0)
	wantRuns(t, c, 0, 0)
	wantRuns(t, c, 1, 3)
	wantLook(t, c, 0, Look{State: Running, Core: 0, Weight: 5})
	wantQueue(t, c, 0)
	wantQueue(t, c, 1)
	for _, core := range wrongCores(2) {
		wantQueue(t, c, core)
		wantNoRuns(t, c, core)
		wantOver(t, c, core, false)
	}
	for _, id := range edgeInts {
		if id != 0 {
			wantNoLook(t, c, id)
		}
	}
}

// DOC.md, rule 4: what is handed out is new memory.
func TestQueueIsNewMemory(t *testing.T) {
	c := fresh(t, 1, 10)
	for id := range 5 {
		add(t, c, id, 1, 0)
	}
	before := as(c)
	told, again := c.Queue(0), c.Queue(0)
	for i := range told {
		told[i] = -1
	}
	spare := told[:cap(told)]
	for i := range spare {
		spare[i] = -1
	}
	_ = append(told[:2], 77, 78)
	wantAs(t, "a write into what Queue told", c, before)
	if !slices.Equal(again, []int{0, 1, 2, 3, 4}) {
		t.Errorf("two Queues share their memory: %v", again)
	}
	pick(t, c, 0, 0)
	add(t, c, 5, 1, 0)
	if !slices.Equal(again, []int{0, 1, 2, 3, 4}) {
		t.Errorf("later calls changed what Queue told: %v", again)
	}
	block(t, c, 0)
	for id := 1; id < 6; id++ {
		remove(t, c, id)
	}
	empty := c.Queue(0)
	_ = append(empty, 7, 7, 7)
	add(t, c, 8, 1, 0)
	_ = append(empty, 9, 9, 9)
	wantQueue(t, c, 0, 8)
}

// Two errors at once, in the chapter's order (DOC.md, rule 2).
func TestErrorsInOrder(t *testing.T) {
	c := fresh(t, 2, 10)
	for id := range 64 {
		add(t, c, id, 1, 0)
	}
	pick(t, c, 0, 0)
	before := as(c)
	wantErrno(t, "Add of a weight that may not be, of one that is there", c.Add(1, 0, 0), api.ErrArg)
	wantErrno(t, "Add to no core, of one that is there", c.Add(1, 1, 2), api.ErrArg)
	wantErrno(t, "Add of a weight that may not be, of one too many", c.Add(64, 257, 0), api.ErrArg)
	wantErrno(t, "Add to no core, of one too many", c.Add(64, 1, -1), api.ErrArg)
	wantErrno(t, "Add of one that is there, of one too many", c.Add(1, 1, 1), api.ErrThere)
	wantErrno(t, "Add with everything wrong", c.Add(1, 0, 2), api.ErrArg)
	wantErrno(t, "Charge of too much, where nobody runs", c.Charge(1, 1<<20+1), api.ErrArg)
	wantErrno(t, "Charge of less than nothing, where nobody runs", c.Charge(1, -1), api.ErrArg)
	wantErrno(t, "Charge of no core, and too much", c.Charge(2, 1<<20+1), api.ErrArg)
	pickNobody(t, c, 2, api.ErrArg)
	pickNobody(t, c, 0, api.ErrState)
	yieldNobody(t, c, -1, api.ErrArg)
	wantAs(t, "an error", c, before)
}
