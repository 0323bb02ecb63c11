package vintc

import (
	"math"
	"testing"

	"palisade/api"
)

// edgeInts are numbers at both ends of int, and around the edges within.
var edgeInts = []int{math.MinInt, math.MinInt + 1, -1 << 32, math.MinInt32 - 1, math.MinInt32, -17, -16, -8, -7, -4, -3, -2, -1, 0, 1, 2, 3, 4, 5, 6, 7, 8, 9, 10, 11, 12, 13, 14, 15, 16, 17, 18, 31, 32, 33, 255, 256, math.MaxInt32, math.MaxInt32 + 1, 1 << 32, 1<<32 + 1, 1<<32 + 3, 1 << 62, math.MaxInt - 1, math.MaxInt}

func isThere(vcpus, vcpu int) bool { return vcpu >= 0 && vcpu < vcpus }

func isNumbered(source int) bool { return source >= 1 && source <= 16 }

func isPlain(weight int) bool { return weight >= 0 && weight <= 7 }

// made is one of so many virtual processors.
func made(t *testing.T, vcpus int) *Intc {
	t.Helper()
	c, e := New(vcpus)
	if c == nil || e != api.OK {
		t.Fatalf("New(%d) = %v, %d", vcpus, c, int(e))
	}
	return c
}

// open is one of so many virtual processors, each of which hears each source.
func open(t *testing.T, vcpus int) *Intc {
	t.Helper()
	c := made(t, vcpus)
	for vcpu := range vcpus {
		for source := 1; source <= 16; source++ {
			enable(t, c, vcpu, source, true)
		}
	}
	return c
}

func wantErrno(t *testing.T, what string, e, want api.Errno) {
	t.Helper()
	if e != want {
		t.Errorf("%s = %d; want %d", what, int(e), int(want))
	}
}

func raise(t *testing.T, c *Intc, sources ...int) {
	t.Helper()
	for _, source := range sources {
		if e := c.Raise(source); e != api.OK {
			t.Errorf("Raise(%d) = %d; want 0", source, int(e))
		}
	}
}

func enable(t *testing.T, c *Intc, vcpu, source int, on bool) {
	t.Helper()
	if e := c.Enable(vcpu, source, on); e != api.OK {
		t.Errorf("Enable(%d, %d, %v) = %d; want 0", vcpu, source, on, int(e))
	}
}

func weigh(t *testing.T, c *Intc, source, priority int) {
	t.Helper()
	if e := c.Weigh(source, priority); e != api.OK {
		t.Errorf("Weigh(%d, %d) = %d; want 0", source, priority, int(e))
	}
}

func bar(t *testing.T, c *Intc, vcpu, threshold int) {
	t.Helper()
	if e := c.Bar(vcpu, threshold); e != api.OK {
		t.Errorf("Bar(%d, %d) = %d; want 0", vcpu, threshold, int(e))
	}
}

// wantClaims looks what claims of one virtual processor, one behind the other, tell.
func wantClaims(t *testing.T, c *Intc, vcpu int, sources ...int) {
	t.Helper()
	for i, want := range sources {
		if source, e := c.Claim(vcpu); source != want || e != api.OK {
			t.Errorf("Claim(%d), the %d-th, = %d, %d; want %d, 0", vcpu, i, source, int(e), want)
		}
	}
}

func complete(t *testing.T, c *Intc, vcpu int, sources ...int) {
	t.Helper()
	for _, source := range sources {
		if e := c.Complete(vcpu, source); e != api.OK {
			t.Errorf("Complete(%d, %d) = %d; want 0", vcpu, source, int(e))
		}
	}
}

// wantLines looks at all lines.
func wantLines(t *testing.T, c *Intc, lines ...bool) {
	t.Helper()
	for vcpu, want := range lines {
		if c.Line(vcpu) != want {
			t.Errorf("Line(%d) = %v; want %v", vcpu, !want, want)
		}
	}
}

func wantTold(t *testing.T, c *Intc, source int, pending bool, taken int) {
	t.Helper()
	if p, by := c.Told(source); p != pending || by != taken {
		t.Errorf("Told(%d) = %v, %d; want %v, %d", source, p, by, pending, taken)
	}
}

func wantSoft(t *testing.T, c *Intc, vcpu int, want bool) {
	t.Helper()
	if c.Soft(vcpu) != want {
		t.Errorf("Soft(%d) = %v; want %v", vcpu, !want, want)
	}
}

// The chapter's example.

func TestExample(t *testing.T) {
	c := made(t, 2)
	enable(t, c, 0, 3, true)
	enable(t, c, 0, 5, true)
	raise(t, c, 5, 3)
	wantLines(t, c, true, false)
	wantClaims(t, c, 0, 3, 5, 0)
	wantErrno(t, "Complete(1, 3)", c.Complete(1, 3), api.ErrState)
}

func TestSources(t *testing.T) {
	if Sources != 16 {
		t.Errorf("Sources = %d; want 16", Sources)
	}
}

// DOC.md, rule 1: of nil, and of one that no call made.

func TestNobodys(t *testing.T) {
	for _, c := range []*Intc{nil, {}} {
		for _, n := range edgeInts {
			for _, other := range edgeInts {
				wantErrno(t, "Enable", c.Enable(n, other, true), api.ErrNil)
				wantErrno(t, "Enable", c.Enable(n, other, false), api.ErrNil)
				wantErrno(t, "Weigh", c.Weigh(n, other), api.ErrNil)
				wantErrno(t, "Bar", c.Bar(n, other), api.ErrNil)
				wantErrno(t, "Complete", c.Complete(n, other), api.ErrNil)
			}
			wantErrno(t, "Raise", c.Raise(n), api.ErrNil)
			wantErrno(t, "Poke", c.Poke(n), api.ErrNil)
			if source, e := c.Claim(n); source != 0 || e != api.ErrNil {
				t.Errorf("Claim(%d) = %d, %d; want 0, %d", n, source, int(e), int(api.ErrNil))
			}
			if c.Line(n) {
				t.Errorf("Line(%d) = true", n)
			}
			wantSoft(t, c, n, false)
			wantTold(t, c, n, false, -1)
		}
		if c != nil && *c != (Intc{}) {
			t.Errorf("calls of one that no call made changed it: %v", *c)
		}
	}
}

// P20.1

func TestNew(t *testing.T) {
	for _, vcpus := range edgeInts {
		c, e := New(vcpus)
		if vcpus < 1 || vcpus > 4 {
			if c != nil || e != api.ErrArg {
				t.Errorf("New(%d) = %v, %d; want nil, %d", vcpus, c, int(e), int(api.ErrArg))
			}
			continue
		}
		if c == nil || e != api.OK {
			t.Errorf("New(%d) = %v, %d; want 0", vcpus, c, int(e))
		}
	}
}

// A new one: nothing is pending, taken, enabled, barred or poked, and all weigh 1.
func TestNewLeaves(t *testing.T) {
	for vcpus := 1; vcpus <= 4; vcpus++ {
		c := made(t, vcpus)
		for source := 1; source <= 16; source++ {
			wantTold(t, c, source, false, -1)
		}
		for vcpu := range vcpus {
			wantSoft(t, c, vcpu, false)
			wantLines(t, c, make([]bool, vcpus)...)
			wantClaims(t, c, vcpu, 0, 0)
		}
		for source := 1; source <= 16; source++ {
			raise(t, c, source)
			wantTold(t, c, source, true, -1)
		}
		wantLines(t, c, make([]bool, vcpus)...)
		for vcpu := range vcpus {
			wantClaims(t, c, vcpu, 0)
		}
	}
}

func TestAllWeighOneAtFirst(t *testing.T) {
	for vcpus := 1; vcpus <= 4; vcpus++ {
		for vcpu := range vcpus {
			c := open(t, vcpus)
			for source := 16; source >= 1; source-- {
				raise(t, c, source)
			}
			bar(t, c, vcpu, 1)
			wantClaims(t, c, vcpu, 0)
			bar(t, c, vcpu, 0)
			wantClaims(t, c, vcpu, 1, 2, 3, 4, 5, 6, 7, 8, 9, 10, 11, 12, 13, 14, 15, 16, 0)
		}
	}
}

func TestNoThresholdAtFirst(t *testing.T) {
	for vcpu := range 4 {
		c := open(t, 4)
		weigh(t, c, 9, 0)
		raise(t, c, 8, 9)
		wantLines(t, c, true, true, true, true)
		wantClaims(t, c, vcpu, 8, 0)
		wantLines(t, c, false, false, false, false)
	}
}

// busy is one of so many virtual processors with something of everything, and a model that had the same calls.
func busy(t *testing.T, vcpus int) (*Intc, *model) {
	t.Helper()
	c, m := made(t, vcpus), newModel(vcpus)
	s := scatter(vcpus)
	for range 400 {
		wantAlike(t, c, m, someCall(&s, vcpus))
	}
	for source := 2; source <= 16; source += 3 {
		wantAlike(t, c, m, call{what: doEnable, a: source % vcpus, b: source, on: true})
		wantAlike(t, c, m, call{what: doRaise, a: source})
	}
	wantAlike(t, c, m, call{what: doClaim, a: 2 % vcpus})
	wantAlike(t, c, m, call{what: doPoke, a: vcpus - 1})
	return c, m
}

// wrong tells all calls of so many virtual processors whose arguments may not be: one of them, or both.
func wrong(vcpus int) []call {
	var calls []call
	for _, a := range edgeInts {
		if !isNumbered(a) {
			calls = append(calls, call{what: doRaise, a: a})
		}
		if !isThere(vcpus, a) {
			calls = append(calls, call{what: doClaim, a: a}, call{what: doPoke, a: a})
		}
		for _, b := range edgeInts {
			if !isThere(vcpus, a) || !isNumbered(b) {
				calls = append(calls, call{what: doEnable, a: a, b: b, on: true}, call{what: doEnable, a: a, b: b}, call{what: doComplete, a: a, b: b})
			}
			if !isNumbered(a) || !isPlain(b) {
				calls = append(calls, call{what: doWeigh, a: a, b: b})
			}
			if !isThere(vcpus, a) || !isPlain(b) {
				calls = append(calls, call{what: doBar, a: a, b: b})
			}
		}
	}
	return calls
}

// P20.1, P20.2, P20.3: one wrong argument, and two; each of the calls has changed nothing.
func TestWrongArguments(t *testing.T) {
	for vcpus := 1; vcpus <= 4; vcpus++ {
		c, m := busy(t, vcpus)
		for _, k := range wrong(vcpus) {
			before := *c
			if got := k.ask(c); got != (answer{e: api.ErrArg}) {
				t.Errorf("of %d virtual processors: %v = %v; want the error %d alone", vcpus, k, got, int(api.ErrArg))
			}
			if *c != before {
				t.Errorf("of %d virtual processors: %v changed it", vcpus, k)
			}
		}
		wantSame(t, c, m)
	}
}

// ErrState of each source and each virtual processor that has not taken it: it has changed nothing.
func TestWrongStates(t *testing.T) {
	for vcpus := 1; vcpus <= 4; vcpus++ {
		c, m := busy(t, vcpus)
		refused := 0
		for vcpu := range vcpus {
			for source := 1; source <= 16; source++ {
				if _, by := c.Told(source); by == vcpu {
					continue
				}
				before := *c
				wantErrno(t, "Complete", c.Complete(vcpu, source), api.ErrState)
				if *c != before {
					t.Errorf("Complete(%d, %d) changed it", vcpu, source)
				}
				refused++
			}
		}
		if taken := 16*vcpus - refused; taken == 0 {
			t.Error("nothing was taken")
		}
		wantSame(t, c, m)
	}
}

// Looks at what is not there change nothing either.
func TestLooksAtNothing(t *testing.T) {
	for vcpus := 1; vcpus <= 4; vcpus++ {
		c, m := busy(t, vcpus)
		for _, n := range edgeInts {
			if !isThere(vcpus, n) {
				if c.Line(n) {
					t.Errorf("Line(%d) = true of %d virtual processors", n, vcpus)
				}
				wantSoft(t, c, n, false)
			}
			if !isNumbered(n) {
				wantTold(t, c, n, false, -1)
			}
		}
		wantSame(t, c, m)
	}
}

// All arguments that may be.
func TestRightArguments(t *testing.T) {
	for vcpus := 1; vcpus <= 4; vcpus++ {
		c := made(t, vcpus)
		for _, n := range edgeInts {
			if isNumbered(n) {
				raise(t, c, n)
				for weight := range 8 {
					weigh(t, c, n, weight)
				}
			}
			if !isThere(vcpus, n) {
				continue
			}
			for source := 1; source <= 16; source++ {
				enable(t, c, n, source, false)
				enable(t, c, n, source, true)
			}
			for weight := range 8 {
				bar(t, c, n, weight)
			}
			wantErrno(t, "Poke", c.Poke(n), api.OK)
			wantClaims(t, c, n, 0)
		}
	}
}

func TestEnable(t *testing.T) {
	for source := 1; source <= 16; source++ {
		for vcpu := range 4 {
			c := made(t, 4)
			raise(t, c, source)
			enable(t, c, vcpu, source, true)
			for other := range 4 {
				if got := c.Line(other); got != (other == vcpu) {
					t.Errorf("enabled for %d: Line(%d) = %v", vcpu, other, got)
				}
				if other != vcpu {
					wantClaims(t, c, other, 0)
				}
			}
			enable(t, c, vcpu, source, true)
			wantLines(t, c, vcpu == 0, vcpu == 1, vcpu == 2, vcpu == 3)
			enable(t, c, vcpu, source, false)
			wantLines(t, c, false, false, false, false)
			wantClaims(t, c, vcpu, 0)
			wantTold(t, c, source, true, -1)
			enable(t, c, vcpu, source, true)
			wantClaims(t, c, vcpu, source, 0)
		}
	}
}

// Enable is of that source alone.
func TestEnableOfOneSource(t *testing.T) {
	for source := 1; source <= 16; source++ {
		c := made(t, 1)
		enable(t, c, 0, source, true)
		for other := 1; other <= 16; other++ {
			raise(t, c, other)
		}
		wantClaims(t, c, 0, source, 0)
		c = open(t, 1)
		enable(t, c, 0, source, false)
		for other := 1; other <= 16; other++ {
			raise(t, c, other)
			if other != source {
				wantClaims(t, c, 0, other)
			}
			wantClaims(t, c, 0, 0)
		}
	}
}

// Priorities and thresholds, all of them against all: what weighs as much as the threshold may not come, what weighs one more may.
func TestWeights(t *testing.T) {
	for priority := range 8 {
		for threshold := range 8 {
			c := open(t, 2)
			weigh(t, c, 4, priority)
			bar(t, c, 1, threshold)
			raise(t, c, 4)
			wantLines(t, c, priority > 0, priority > threshold)
			if priority > threshold {
				wantClaims(t, c, 1, 4, 0)
				wantTold(t, c, 4, false, 1)
			} else {
				wantClaims(t, c, 1, 0)
				wantTold(t, c, 4, true, -1)
			}
		}
	}
}

// What is set behind a Raise counts as what is set ahead of it, and the last that was set counts.
func TestWeightsAnew(t *testing.T) {
	c := open(t, 2)
	raise(t, c, 6)
	wantLines(t, c, true, true)
	bar(t, c, 0, 1)
	wantLines(t, c, false, true)
	weigh(t, c, 6, 2)
	wantLines(t, c, true, true)
	bar(t, c, 1, 7)
	wantLines(t, c, true, false)
	weigh(t, c, 6, 7)
	wantLines(t, c, true, false)
	bar(t, c, 1, 6)
	wantLines(t, c, true, true)
	weigh(t, c, 6, 0)
	wantLines(t, c, false, false)
	bar(t, c, 0, 0)
	wantLines(t, c, false, false)
	weigh(t, c, 6, 1)
	wantLines(t, c, true, false)
	wantClaims(t, c, 1, 0)
	wantClaims(t, c, 0, 6, 0)
}

// P20.2

func TestFirst(t *testing.T) {
	for _, k := range []struct {
		priorities [5]int // of the sources 1 to 5, all of which are pending
		threshold  int
		claims     []int
	}{
		{[5]int{1, 1, 1, 1, 1}, 0, []int{1, 2, 3, 4, 5, 0}},
		{[5]int{1, 2, 3, 4, 5}, 0, []int{5, 4, 3, 2, 1, 0}},
		{[5]int{5, 4, 3, 2, 1}, 0, []int{1, 2, 3, 4, 5, 0}},
		{[5]int{2, 7, 2, 7, 2}, 0, []int{2, 4, 1, 3, 5, 0}},
		{[5]int{2, 7, 2, 7, 2}, 2, []int{2, 4, 0}},
		{[5]int{2, 7, 3, 7, 2}, 2, []int{2, 4, 3, 0}},
		{[5]int{7, 7, 7, 7, 7}, 7, []int{0}},
		{[5]int{7, 7, 7, 7, 7}, 6, []int{1, 2, 3, 4, 5, 0}},
		{[5]int{0, 0, 1, 0, 0}, 0, []int{3, 0}},
		{[5]int{0, 0, 0, 0, 0}, 0, []int{0}},
	} {
		for _, order := range [][]int{{1, 2, 3, 4, 5}, {5, 4, 3, 2, 1}, {3, 1, 5, 2, 4}} {
			c := open(t, 2)
			bar(t, c, 1, 7)
			bar(t, c, 0, k.threshold)
			for _, source := range order {
				raise(t, c, source)
				weigh(t, c, source, k.priorities[source-1])
			}
			wantLines(t, c, k.claims[0] != 0, false)
			wantClaims(t, c, 0, k.claims...)
			wantLines(t, c, false, false)
		}
	}
}

// Of any two sources with any two priorities, the one that weighs more comes first; of two alike the one with the less number.
func TestFirstOfTwo(t *testing.T) {
	for one := 1; one <= 16; one++ {
		for other := one + 1; other <= 16; other++ {
			for priority := 1; priority < 8; priority++ {
				for another := 1; another < 8; another++ {
					c := open(t, 1)
					weigh(t, c, one, priority)
					weigh(t, c, other, another)
					raise(t, c, other, one)
					if another > priority {
						wantClaims(t, c, 0, other, one, 0)
					} else {
						wantClaims(t, c, 0, one, other, 0)
					}
				}
			}
		}
	}
}

// What weighs more, but may not come, is ahead of nothing.
func TestFirstOfThoseThatMayCome(t *testing.T) {
	c := open(t, 2)
	for source := 1; source <= 4; source++ {
		weigh(t, c, source, 7)
	}
	enable(t, c, 0, 2, false)
	raise(t, c, 2, 3, 9)
	wantClaims(t, c, 1, 2)
	raise(t, c, 2)
	wantClaims(t, c, 0, 3, 9, 0)
	complete(t, c, 1, 2)
	wantClaims(t, c, 0, 0)
	wantClaims(t, c, 1, 2, 0)
}

// One virtual processor's first need not be another one's.
func TestFirstOfEach(t *testing.T) {
	c := made(t, 3)
	for source := 1; source <= 6; source++ {
		enable(t, c, source%3, source, true)
		weigh(t, c, source, source)
		raise(t, c, source)
	}
	enable(t, c, 0, 5, true)
	bar(t, c, 1, 3)
	wantLines(t, c, true, true, true)
	wantClaims(t, c, 2, 5, 2, 0)
	wantClaims(t, c, 0, 6, 3, 0)
	wantClaims(t, c, 1, 4, 0)
	bar(t, c, 1, 0)
	wantClaims(t, c, 1, 1, 0)
}

// A source that is enabled for several is taken by the first that claims.
func TestClaimOfSeveral(t *testing.T) {
	for vcpu := range 4 {
		c := open(t, 4)
		raise(t, c, 7)
		wantLines(t, c, true, true, true, true)
		wantClaims(t, c, vcpu, 7)
		wantTold(t, c, 7, false, vcpu)
		wantLines(t, c, false, false, false, false)
		for other := range 4 {
			wantClaims(t, c, other, 0)
		}
		for other := range 4 {
			if other != vcpu {
				wantErrno(t, "Complete by another", c.Complete(other, 7), api.ErrState)
				wantTold(t, c, 7, false, vcpu)
			}
		}
		complete(t, c, vcpu, 7)
		wantTold(t, c, 7, false, -1)
		wantErrno(t, "Complete, twice", c.Complete(vcpu, 7), api.ErrState)
		wantClaims(t, c, vcpu, 0)
	}
}

func TestCompleteOfWhatWasNotClaimed(t *testing.T) {
	c := open(t, 4)
	for source := 1; source <= 16; source++ {
		for vcpu := range 4 {
			wantErrno(t, "Complete of what is not pending", c.Complete(vcpu, source), api.ErrState)
		}
		raise(t, c, source)
		for vcpu := range 4 {
			wantErrno(t, "Complete of what is pending", c.Complete(vcpu, source), api.ErrState)
		}
		wantTold(t, c, source, true, -1)
		wantClaims(t, c, source%4, source)
		wantTold(t, c, source, false, source%4)
	}
	// What is taken by one is completed by it alone, in any order.
	for source := 16; source >= 1; source-- {
		for vcpu := range 4 {
			want := api.ErrState
			if vcpu == source%4 {
				want = api.OK
			}
			wantErrno(t, "Complete", c.Complete(vcpu, source), want)
		}
		wantTold(t, c, source, false, -1)
	}
}

// A source that is raised while it is pending is heard once.
func TestRaisedWhilePending(t *testing.T) {
	c := open(t, 2)
	raise(t, c, 3, 3, 3)
	wantTold(t, c, 3, true, -1)
	wantClaims(t, c, 0, 3, 0)
	complete(t, c, 0, 3)
	wantTold(t, c, 3, false, -1)
	wantLines(t, c, false, false)
	wantClaims(t, c, 0, 0)
	wantClaims(t, c, 1, 0)
}

// A source that is raised while it is taken comes again behind its Complete, once, to anybody.
func TestRaisedWhileTaken(t *testing.T) {
	for _, vcpu := range []int{0, 1} {
		c := open(t, 2)
		raise(t, c, 3)
		wantClaims(t, c, 0, 3)
		raise(t, c, 3, 3)
		wantTold(t, c, 3, true, 0)
		wantLines(t, c, false, false)
		wantClaims(t, c, 0, 0)
		wantClaims(t, c, 1, 0)
		wantErrno(t, "Complete by another", c.Complete(1, 3), api.ErrState)
		wantTold(t, c, 3, true, 0)
		complete(t, c, 0, 3)
		wantTold(t, c, 3, true, -1)
		wantLines(t, c, true, true)
		wantClaims(t, c, vcpu, 3, 0)
		wantTold(t, c, 3, false, vcpu)
		wantErrno(t, "Complete by another", c.Complete(1-vcpu, 3), api.ErrState)
		complete(t, c, vcpu, 3)
		wantClaims(t, c, vcpu, 0)
	}
}

func TestRaisedBehindComplete(t *testing.T) {
	c := open(t, 2)
	for i := range 20 {
		raise(t, c, 16)
		wantLines(t, c, true, true)
		wantClaims(t, c, i%2, 16, 0)
		wantLines(t, c, false, false)
		complete(t, c, i%2, 16)
		wantLines(t, c, false, false)
		wantTold(t, c, 16, false, -1)
	}
}

// What is set while a source is taken leaves it taken.
func TestSetWhileTaken(t *testing.T) {
	c := open(t, 2)
	raise(t, c, 5)
	wantClaims(t, c, 1, 5)
	enable(t, c, 1, 5, false)
	weigh(t, c, 5, 0)
	bar(t, c, 1, 7)
	wantTold(t, c, 5, false, 1)
	raise(t, c, 5)
	complete(t, c, 1, 5)
	wantTold(t, c, 5, true, -1)
	wantLines(t, c, false, false)
	weigh(t, c, 5, 3)
	wantLines(t, c, true, false)
}

// One that has taken a source may take more, up to all.
func TestTakesSeveral(t *testing.T) {
	c := open(t, 2)
	raise(t, c, 8)
	wantClaims(t, c, 0, 8)
	raise(t, c, 12)
	weigh(t, c, 2, 5)
	raise(t, c, 2)
	wantClaims(t, c, 0, 2, 12, 0)
	for _, source := range []int{2, 8, 12} {
		wantTold(t, c, source, false, 0)
	}
	complete(t, c, 0, 8)
	wantTold(t, c, 2, false, 0)
	wantTold(t, c, 12, false, 0)
}

// The line ahead of each change, and behind it.
func TestLineBehindEachChange(t *testing.T) {
	c := made(t, 2)
	for i, k := range []struct {
		change func()
		line   bool // of 1; that of 0 is never set
	}{
		{func() {}, false},
		{func() { raise(t, c, 4) }, false},
		{func() { enable(t, c, 1, 4, true) }, true},
		{func() { enable(t, c, 1, 4, false) }, false},
		{func() { enable(t, c, 1, 4, true) }, true},
		{func() { bar(t, c, 1, 1) }, false},
		{func() { weigh(t, c, 4, 2) }, true},
		{func() { bar(t, c, 1, 2) }, false},
		{func() { bar(t, c, 1, 1) }, true},
		{func() { weigh(t, c, 4, 1) }, false},
		{func() { bar(t, c, 1, 0) }, true},
		{func() { bar(t, c, 0, 0) }, true},
		{func() { c.Poke(1) }, true},
		{func() { c.Soft(1) }, true},
		{func() { wantClaims(t, c, 0, 0) }, true},
		{func() { wantClaims(t, c, 1, 4) }, false},
		{func() { raise(t, c, 4) }, false},
		{func() { complete(t, c, 1, 4) }, true},
		{func() { wantClaims(t, c, 1, 4) }, false},
		{func() { complete(t, c, 1, 4) }, false},
		{func() { raise(t, c, 5) }, false},
		{func() { enable(t, c, 1, 5, true); raise(t, c, 4) }, true},
		{func() { wantClaims(t, c, 1, 4) }, true},
		{func() { wantClaims(t, c, 1, 5) }, false},
	} {
		k.change()
		for range 2 { // a look at it changes nothing
			wantLines(t, c, false, k.line)
		}
		if t.Failed() {
			t.Fatalf("behind the change %d", i)
		}
	}
}

// P20.3

func TestSoft(t *testing.T) {
	for vcpus := 1; vcpus <= 4; vcpus++ {
		for vcpu := range vcpus {
			c := open(t, vcpus)
			wantErrno(t, "Poke", c.Poke(vcpu), api.OK)
			for other := range vcpus {
				if other != vcpu {
					wantSoft(t, c, other, false)
				}
			}
			wantSoft(t, c, vcpu, true)
			wantSoft(t, c, vcpu, false)
			wantSoft(t, c, vcpu, false)
			wantErrno(t, "Poke", c.Poke(vcpu), api.OK)
			wantErrno(t, "Poke", c.Poke(vcpu), api.OK)
			wantSoft(t, c, vcpu, true)
			wantSoft(t, c, vcpu, false)
		}
	}
}

// Soft lines are apart from one another, and from the sources.
func TestSoftApart(t *testing.T) {
	c := open(t, 4)
	for vcpu := range 4 {
		wantErrno(t, "Poke", c.Poke(vcpu), api.OK)
		bar(t, c, vcpu, 7)
	}
	wantLines(t, c, false, false, false, false)
	raise(t, c, 1)
	wantSoft(t, c, 2, true)
	wantSoft(t, c, 2, false)
	wantErrno(t, "Poke", c.Poke(2), api.OK)
	for vcpu := range 4 {
		wantClaims(t, c, vcpu, 0)
		wantSoft(t, c, vcpu, true)
		wantSoft(t, c, vcpu, false)
	}
	wantTold(t, c, 1, true, -1)
}

func TestTold(t *testing.T) {
	c := open(t, 4)
	for source := 1; source <= 16; source++ {
		vcpu := source % 4
		wantTold(t, c, source, false, -1)
		raise(t, c, source)
		wantTold(t, c, source, true, -1)
		wantTold(t, c, source, true, -1)
		wantClaims(t, c, vcpu, source)
		wantTold(t, c, source, false, vcpu)
		raise(t, c, source)
		wantTold(t, c, source, true, vcpu)
		complete(t, c, vcpu, source)
		wantTold(t, c, source, true, -1)
		wantClaims(t, c, vcpu, source)
		complete(t, c, vcpu, source)
		wantTold(t, c, source, false, -1)
	}
}
