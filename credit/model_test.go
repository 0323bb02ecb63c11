package credit

import (
	"cmp"
	"slices"
	"testing"

	"palisade/api"
)

// scatter gives numbers that follow no plain order, always the same ones.
type scatter uint64

func (s *scatter) next() uint64 {
	*s = *s*6364136223846793005 + 1442695040888963407
	return uint64(*s>>33) ^ uint64(*s)<<31
}

// from tells a number from low to high, both of them too.
func (s *scatter) from(low, high int) int {
	return low + int(s.next()%uint64(high-low+1))
}

// one is what the chapter says of one: whoever came later stands behind.
type one struct {
	id, weight, credit, core, state int
	came                            int
	charged                         int
}

func (o *one) under() bool { return o.credit >= 0 }

// model is what the chapter says of all of them, written down plainly: a list without any order.
type model struct {
	cores, period int
	all           []one
	comes         int
}

func (m *model) find(id int) *one {
	for i := range m.all {
		if m.all[i].id == id {
			return &m.all[i]
		}
	}
	return nil
}

// queue tells those that are ready on a core, in the order in which they came.
func (m *model) queue(core int) (q []*one) {
	for i := range m.all {
		if o := &m.all[i]; o.state == Ready && o.core == core {
			q = append(q, o)
		}
	}
	slices.SortFunc(q, func(a, b *one) int { return cmp.Compare(a.came, b.came) })
	return q
}

func (m *model) ids(core int) (ids []int) {
	for _, o := range m.queue(core) {
		ids = append(ids, o.id)
	}
	return ids
}

func (m *model) runs(core int) *one {
	for i := range m.all {
		if o := &m.all[i]; o.state == Running && o.core == core {
			return o
		}
	}
	return nil
}

// ready lets one be the last of its core's queue.
func (m *model) ready(o *one) {
	m.comes++
	o.state, o.came = Ready, m.comes
}

func (m *model) isCore(core int) bool { return 0 <= core && core < m.cores }

// What calls there are.
const (
	doAdd = iota
	doRemove
	doWake
	doBlock
	doPick
	doCharge
	doYield
	doOver
	doRefill
	doLook
	doQueue
	doRuns
)

// call is a call with its arguments, from left to right.
type call struct{ what, a, b, c int }

// answer is what any call answers.
type answer struct {
	e    api.Errno
	id   int
	ok   bool
	look Look
	list []int
}

func (a answer) is(b answer) bool {
	return a.e == b.e && a.id == b.id && a.ok == b.ok && a.look == b.look && slices.Equal(a.list, b.list)
}

// ask does a call.
func (k call) ask(c *Credit) (r answer) {
	switch k.what {
	case doAdd:
		r.e = c.Add(k.a, k.b, k.c)
	case doRemove:
		r.e = c.Remove(k.a)
	case doWake:
		r.e = c.Wake(k.a)
	case doBlock:
		r.e = c.Block(k.a)
	case doPick:
		r.id, r.ok, r.e = c.Pick(k.a)
	case doCharge:
		r.e = c.Charge(k.a, k.b)
	case doYield:
		r.id, r.e = c.Yield(k.a)
	case doOver:
		r.ok = c.Over(k.a)
	case doRefill:
		r.e = c.Refill()
	case doLook:
		r.look, r.ok = c.Look(k.a)
	case doQueue:
		r.list = c.Queue(k.a)
	case doRuns:
		r.id, r.ok = c.Runs(k.a)
	}
	return r
}

// ask tells what the chapter says of a call.
func (m *model) ask(k call) answer {
	switch k.what {
	case doAdd:
		return answer{e: m.add(k.a, k.b, k.c)}
	case doRemove, doWake, doBlock:
		return answer{e: m.change(k.what, k.a)}
	case doRefill:
		m.refill()
	case doLook:
		if o := m.find(k.a); o != nil {
			return answer{look: Look{State: o.state, Core: o.core, Weight: o.weight, Credit: o.credit}, ok: true}
		}
	case doPick:
		return m.pick(k.a)
	case doCharge, doYield:
		return m.run(k)
	case doOver:
		return answer{ok: m.over(k.a)}
	case doQueue:
		return answer{list: m.ids(k.a)}
	case doRuns:
		if o := m.runs(k.a); o != nil {
			return answer{id: o.id, ok: true}
		}
	}
	return answer{}
}

func (m *model) add(id, weight, core int) api.Errno {
	if weight < 1 || weight > 256 || !m.isCore(core) {
		return api.ErrArg
	}
	if m.find(id) != nil {
		return api.ErrThere
	}
	if len(m.all) >= 64 {
		return api.ErrFull
	}
	m.all = append(m.all, one{id: id, weight: weight, core: core})
	m.ready(m.find(id))
	return api.OK
}

// change does a Remove, a Wake or a Block.
func (m *model) change(what, id int) api.Errno {
	o := m.find(id)
	switch {
	case o == nil:
		return api.ErrNone
	case what == doRemove && o.state == Running, what == doWake && o.state != Blocked, what == doBlock && o.state == Blocked:
		return api.ErrState
	case what == doRemove:
		m.all = slices.DeleteFunc(m.all, func(other one) bool { return other.id == id })
	case what == doWake:
		m.ready(o)
	case what == doBlock:
		o.state = Blocked
	}
	return api.OK
}

func (m *model) pick(core int) answer {
	if !m.isCore(core) {
		return answer{e: api.ErrArg}
	}
	if m.runs(core) != nil {
		return answer{e: api.ErrState}
	}
	o := m.first(core)
	if o == nil {
		return answer{}
	}
	o.state, o.core, o.charged = Running, core, 0
	return answer{id: o.id, ok: true}
}

// first tells who comes first, in the chapter's four steps.
func (m *model) first(core int) *one {
	var behind []*one
	for other := core + 1; other < m.cores; other++ {
		behind = append(behind, m.queue(other)...)
	}
	for other := 0; other < core; other++ {
		behind = append(behind, m.queue(other)...)
	}
	own := m.queue(core)
	if at := slices.IndexFunc(own, (*one).under); at >= 0 {
		return own[at]
	}
	if at := slices.IndexFunc(behind, (*one).under); at >= 0 {
		return behind[at]
	}
	if len(own) > 0 {
		return own[0]
	}
	if len(behind) > 0 {
		return behind[0]
	}
	return nil
}

// run does a Charge or a Yield.
func (m *model) run(k call) answer {
	if !m.isCore(k.a) || k.what == doCharge && (k.b < 0 || k.b > 1<<20) {
		return answer{e: api.ErrArg}
	}
	o := m.runs(k.a)
	if o == nil {
		return answer{e: api.ErrNone}
	}
	if k.what == doYield {
		m.ready(o)
		return answer{id: o.id}
	}
	o.charged += k.b
	if o.credit -= k.b; o.credit < -m.period {
		o.credit = -m.period
	}
	return answer{}
}

func (m *model) over(core int) bool {
	o, queue := m.runs(core), m.queue(core)
	if o == nil {
		return false
	}
	if !o.under() && slices.ContainsFunc(queue, (*one).under) {
		return true
	}
	return o.charged >= m.period && len(queue) > 0
}

func (m *model) refill() {
	together := 0
	for _, o := range m.all {
		together += o.weight
	}
	for i := range m.all {
		o := &m.all[i]
		grow := m.period * o.weight / together
		if grow < 1 {
			grow = 1
		}
		if o.credit += grow; o.credit > m.period {
			o.credit = m.period
		}
	}
}

// wantAlike does a call on both, and holds the answers against each other.
func wantAlike(t *testing.T, c *Credit, m *model, k call) {
	t.Helper()
	if got, want := k.ask(c), m.ask(k); !got.is(want) {
		t.Errorf("%+v = %+v; want %+v", k, got, want)
	}
}

// wantSeen looks at all that is told without a change.
func wantSeen(t *testing.T, c *Credit, m *model, ids int) {
	t.Helper()
	for core := -1; core <= m.cores; core++ {
		wantAlike(t, c, m, call{what: doQueue, a: core})
		wantAlike(t, c, m, call{what: doRuns, a: core})
		wantAlike(t, c, m, call{what: doOver, a: core})
	}
	for id := -1; id <= ids; id++ {
		wantAlike(t, c, m, call{what: doLook, a: id})
	}
}

// wantUncharged looks at what no look tells: how much each one was charged since it was picked, up to what makes Over true.
func wantUncharged(t *testing.T, c *Credit, m *model) {
	t.Helper()
	for core := range m.cores {
		o := m.runs(core)
		if o == nil {
			continue
		}
		for o.charged < m.period {
			wantAlike(t, c, m, call{what: doCharge, a: core, b: (m.period-o.charged)/2 + 1})
			wantAlike(t, c, m, call{what: doOver, a: core})
		}
	}
}

// someCharge tells how much is charged: little beside the period, or some edge.
func someCharge(s *scatter, period int) int {
	if s.from(0, 19) == 0 {
		return edgeInts[s.from(0, len(edgeInts)-1)]
	}
	return s.from(0, period/2+1)
}

// someCall tells any call that changes something, of one of so many ids.
func someCall(s *scatter, ids, cores, period int) call {
	id, core := s.from(-1, ids-2), s.from(0, cores-1)
	if s.from(0, 49) == 0 {
		core = []int{-1, cores, edgeInts[s.from(0, len(edgeInts)-1)]}[s.from(0, 2)]
	}
	switch s.from(0, 23) {
	case 0, 1, 2:
		weight := []int{1, 256, s.from(1, 256), s.from(-1, 258)}[s.from(0, 3)]
		return call{doAdd, id, weight, core}
	case 3:
		return call{what: doRemove, a: id}
	case 4, 5, 6:
		return call{what: doWake, a: id}
	case 7, 8:
		return call{what: doBlock, a: id}
	case 9, 10, 11, 12, 13:
		return call{what: doPick, a: core}
	case 14, 15, 16, 17, 18:
		return call{what: doCharge, a: core, b: someCharge(s, period)}
	case 19, 20, 21, 22:
		return call{what: doYield, a: core}
	}
	return call{what: doRefill}
}

// P22.1 to P22.6 over fixed scatters of calls: of few ids, of as many as there may be, and of more, on one core and on several.

func TestAgainstModel(t *testing.T) {
	for seed := range 72 {
		s := scatter(seed)
		ids := []int{4, 12, 64, 200}[seed%4]
		cores := []int{1, 2, 3, api.MaxCores}[seed/4%4]
		period := []int{1, 2, 10, 1000, 1 << 20}[seed%5]
		c, m := fresh(t, cores, period), &model{cores: cores, period: period}
		for number := range 2000 {
			wantAlike(t, c, m, someCall(&s, ids, cores, period))
			if number%8 == 0 {
				wantSeen(t, c, m, ids)
			}
			if t.Failed() {
				t.Fatalf("seed %d, call %d", seed, number)
			}
		}
		wantSeen(t, c, m, ids)
		wantUncharged(t, c, m)
	}
}

// fewCalls are calls of two or three on two cores, each of which may hang on the others.
var fewCalls = []call{
	{doAdd, 1, 1, 0},
	{doAdd, 2, 3, 0},
	{doAdd, 3, 2, 1},
	{what: doRemove, a: 1},
	{what: doWake, a: 1},
	{what: doBlock, a: 1},
	{what: doBlock, a: 2},
	{what: doPick, a: 0},
	{what: doPick, a: 1},
	{what: doCharge, a: 0, b: 6},
	{what: doCharge, a: 1, b: 10},
	{what: doYield, a: 0},
	{what: doYield, a: 1},
	{what: doRefill},
}

// Every order of some calls of a length, which begins with every shorter one.
func TestEveryOrder(t *testing.T) {
	const length = 4
	orders := 1
	for range length {
		orders *= len(fewCalls)
	}
	for _, begun := range [][]call{
		{{doAdd, 1, 1, 0}, {what: doPick, a: 1}},
		{{doAdd, 2, 3, 0}, {doAdd, 1, 1, 0}, {what: doPick, a: 0}, {what: doCharge, a: 0, b: 4}},
	} {
		for order := range orders {
			c, m := fresh(t, 2, 10), &model{cores: 2, period: 10}
			for _, k := range begun {
				wantAlike(t, c, m, k)
			}
			rest := order
			for range length {
				wantAlike(t, c, m, fewCalls[rest%len(fewCalls)])
				rest /= len(fewCalls)
			}
			wantSeen(t, c, m, 4)
			if t.Failed() {
				t.Fatalf("%+v, order %d", begun, order)
			}
		}
	}
}

// P22.7

// rounds are how a round goes: in each one every core picks, charges and yields.
type rounds struct {
	cores, period int
	weights       []int
	most          int                  // that a core charges
	together      bool                 // all cores pick ahead of the first charge
	charge        func(at, id int) int // what is charged in a round
}

// watched is what was seen of some rounds.
type watched struct {
	waits int // the most rounds until one was picked, that one counted
	debt  int // the greatest debt of anybody behind a round
}

// watch lets some rounds go by. Nobody is blocked, so that each one that does not run is ready.
func (r rounds) watch(t *testing.T, times int) (w watched) {
	t.Helper()
	c := fresh(t, r.cores, r.period)
	for id, weight := range r.weights {
		add(t, c, id, weight, id*7%r.cores)
	}
	last := make([]int, len(r.weights))
	picks := func(core, at int) {
		if id, ok, _ := c.Pick(core); ok {
			w.waits, last[id] = max(w.waits, at-last[id]), at
		}
	}
	done := func(core, at int) {
		if id, ok := c.Runs(core); ok {
			charge(t, c, core, min(r.charge(at, id), r.most))
			yield(t, c, core, id)
		}
	}
	for at := 1; at <= times; at++ {
		for core := range r.cores {
			picks(core, at)
			if !r.together {
				done(core, at)
			}
		}
		for core := range r.cores {
			done(core, at)
		}
		refill(t, c)
		for id := range last {
			look, _ := c.Look(id)
			w.debt = max(w.debt, -look.Credit)
		}
	}
	for id := range last {
		w.waits = max(w.waits, times+1-last[id])
	}
	return w
}

// wantTurns looks whether everybody is picked as soon as the chapter promises it, while nobody's debt is more than what is charged at once.
func (r rounds) wantTurns(t *testing.T, times int) {
	t.Helper()
	w := r.watch(t, times)
	if bound := max(r.most, w.debt) + len(r.weights) + 2; w.waits > bound {
		t.Errorf("%d cores, period %d, weights %v, charges up to %d: somebody waits for %d rounds; want %d", r.cores, r.period, r.weights, r.most, w.waits, bound)
	}
	if r.cores == 1 && w.waits > r.most+len(r.weights)+2 {
		t.Errorf("one core, period %d, weights %v, charges up to %d: somebody waits for %d rounds", r.period, r.weights, r.most, w.waits)
	}
}

// someWeights are weights that are alike, or nearly so, or as unlike as can be.
func someWeights(s *scatter, number int) []int {
	weights, kind := make([]int, number), s.from(0, 3)
	for i := range weights {
		weights[i] = []int{1, 256, s.from(1, 256), []int{1, 256}[s.from(0, 1)]}[kind]
	}
	return weights
}

// The same charge in each round.
func TestTurnsAlike(t *testing.T) {
	for _, cores := range []int{1, 2, 3, api.MaxCores} {
		for _, number := range []int{1, 2, 3, 5, 8, 9, 20, 64} {
			for _, period := range []int{1, 10, 300} {
				for _, most := range []int{0, 1, 7, 10, 100} {
					for kind := range 3 {
						weights := make([]int, number)
						for i := range weights {
							weights[i] = []int{1, 256, 1 + i*i%256}[kind]
						}
						r := rounds{cores, period, weights, most, kind == 1, func(int, int) int { return most }}
						r.wantTurns(t, 60+2*most+2*number)
					}
				}
			}
		}
	}
}

// Any charges, of phases in which much and in which little is charged.
func TestTurnsOfAnyCharges(t *testing.T) {
	for seed := range 400 {
		s := scatter(seed + 900)
		period := s.from(1, []int{4, 50, 600}[seed%3])
		most := s.from(0, min(2*period, 300))
		phase, much := s.from(1, 200), []int{most, most / 2}[seed%2]
		r := rounds{
			cores:    []int{1, 1, 2, api.MaxCores}[seed%4],
			period:   period,
			weights:  someWeights(&s, s.from(1, []int{3, 20, 64}[seed/4%3])),
			most:     most,
			together: seed%5 == 0,
			charge: func(at, id int) int {
				switch {
				case at/phase%2 == 1 && id%3 == 0:
					return s.from(0, 1)
				case seed%7 == 0:
					return s.from(0, most)
				}
				return much
			},
		}
		r.wantTurns(t, 800)
	}
}

// Where no debt is more than what is charged at once, since it ends at the period, the promise holds on several cores too.
func TestTurnsOfAPeriod(t *testing.T) {
	for seed := range 60 {
		s := scatter(seed + 2000)
		period := s.from(1, 40)
		r := rounds{
			cores:   s.from(2, api.MaxCores),
			period:  period,
			weights: someWeights(&s, s.from(1, 30)),
			most:    period + s.from(0, 3),
			charge:  func(at, id int) int { return s.from(0, 1) * (period + 3) },
		}
		w := r.watch(t, 500)
		if bound := r.most + len(r.weights) + 2; w.waits > bound || w.debt > period {
			t.Errorf("seed %d: somebody waits for %d rounds, and the greatest debt is %d; want %d, %d", seed, w.waits, w.debt, bound, period)
		}
	}
}

// One with the greatest debt, beside many heavy ones, waits for its refills, and no longer.
func TestTurnOfADebtor(t *testing.T) {
	c := fresh(t, 1, 100)
	add(t, c, 0, 1, 0)
	give(t, c, 0, -100)
	for id := 1; id < 20; id++ {
		add(t, c, id, 256, 0)
	}
	wake(t, c, 0)
	for at := 1; ; at++ {
		id, ok, _ := c.Pick(0)
		if !ok || at > 122 {
			t.Fatalf("round %d: %v, and the debtor was not picked", at, ok)
		}
		if id == 0 {
			break
		}
		yield(t, c, 0, id)
		refill(t, c)
	}
}

// The same calls are answered alike, whatever others are asked between (DOC.md, rule 5).
func TestAnsweredAlike(t *testing.T) {
	a, b, other := fresh(t, 3, 50), fresh(t, 3, 50), fresh(t, 3, 50)
	s, noise := scatter(1), scatter(2)
	for range 20000 {
		k := someCall(&s, 40, 3, 50)
		first := k.ask(a)
		for range noise.from(0, 3) {
			someCall(&noise, 40, 3, 50).ask(other)
		}
		if second := k.ask(b); !first.is(second) {
			t.Fatalf("%+v = %+v, then %+v", k, first, second)
		}
	}
}
