package wire

import (
	"slices"
	"strconv"
	"testing"

	"palisade/api"
)

// scatter gives numbers that follow no plain order, always the same ones.
type scatter uint64

func (s *scatter) next() uint64 {
	*s = *s*6364136223846793005 + 1442695040888963407
	return uint64(*s>>33) ^ uint64(*s)<<31
}

// from tells a number from low to high, both of them too.
func (s *scatter) from(low, high int) int {
	return low + int(s.next()%uint64(high-low+1))
}

// note is a message whose bytes are a text: it can be compared.
type note struct {
	from int
	text string
}

// model is what the chapter says of a wire, plainly: lists, and no channel.
type model struct {
	groups []int
	wait   [][]note
}

func (m *model) has(port int) bool { return port >= 0 && port < len(m.groups) }

func (m *model) send(from, to int, text string) (int, api.Errno) {
	if !m.has(from) || to >= len(m.groups) {
		return 0, api.ErrArg
	}
	if len(text) > 2048 {
		return 0, api.ErrBig
	}
	var others []int
	for port, group := range m.groups {
		if port != from && group >= 0 && group == m.groups[from] {
			others = append(others, port)
		}
	}
	if m.groups[from] < 0 || to >= 0 && !slices.Contains(others, to) {
		return 0, api.ErrNone
	}
	if to >= 0 {
		others = []int{to}
	}
	count := 0
	for _, port := range others {
		if len(m.wait[port]) < 16 {
			m.wait[port] = append(m.wait[port], note{from, text})
			count++
		}
	}
	if to >= 0 && count == 0 {
		return 0, api.ErrFull
	}
	return count, api.OK
}

func (m *model) inject(to int, text string) api.Errno {
	switch {
	case !m.has(to):
		return api.ErrArg
	case len(text) > 2048:
		return api.ErrBig
	case len(m.wait[to]) >= 16:
		return api.ErrFull
	}
	m.wait[to] = append(m.wait[to], note{-1, text})
	return api.OK
}

func (m *model) receive(port int) (note, bool) {
	if !m.has(port) || len(m.wait[port]) == 0 {
		return note{}, false
	}
	first := m.wait[port][0]
	m.wait[port] = m.wait[port][1:]
	return first, true
}

func (m *model) join(port, group int) api.Errno {
	if !m.has(port) {
		return api.ErrArg
	}
	m.groups[port] = group
	return api.OK
}

// word is a text that no other number gives, now and then one of the greatest length or of one byte more.
func word(s *scatter, number int) string {
	b := []byte(strconv.Itoa(number) + ".")
	switch s.next() % 16 {
	case 0:
		b = append(b, text(2048-len(b))...)
	case 1:
		b = append(b, text(2049-len(b))...)
	}
	return string(b)
}

// act does one call on both, and holds the answers against each other.
func act(t *testing.T, s *scatter, w *Wire, want *model, number int) {
	t.Helper()
	last := len(want.groups)
	switch s.next() % 16 {
	case 0:
		port, group := s.from(-1, last), s.from(-1, 2)
		wantErrno(t, "Join", w.Join(port, group), want.join(port, group))
	case 1, 2:
		to, b := s.from(-1, last), word(s, number)
		wantErrno(t, "Inject", w.Inject(to, []byte(b)), want.inject(to, b))
	case 3, 4, 5, 6, 7:
		port := s.from(-1, last)
		m, ok := w.Receive(port)
		n, is := want.receive(port)
		if ok != is || m.From != n.from || string(m.Bytes) != n.text {
			t.Errorf("Receive(%d) = {%d %q}, %v; want %v, %v", port, m.From, m.Bytes, ok, n, is)
		}
	default:
		from, to, b := s.from(-1, last), s.from(-last/2-1, last), word(s, number)
		n, e := w.Send(from, to, []byte(b))
		if wn, we := want.send(from, to, b); n != wn || e != we {
			t.Errorf("Send(%d, %d, of %d bytes) = %d, %d; want %d, %d", from, to, len(b), n, int(e), wn, int(we))
		}
	}
}

func TestAgainstModel(t *testing.T) {
	for seed := range 60 {
		s := scatter(seed)
		ports := s.from(1, 12)
		if seed%10 == 0 {
			ports = 32
		}
		groups := make([]int, ports)
		for i := range groups {
			groups[i] = s.from(-1, 2)
		}
		w := newWire(t, groups...)
		want := &model{groups: slices.Clone(groups), wait: make([][]note, ports)}
		for number := range 1500 {
			act(t, &s, w, want, number)
			for port := range ports {
				if got := w.Waiting(port); got != len(want.wait[port]) {
					t.Errorf("Waiting(%d) = %d, want %d", port, got, len(want.wait[port]))
				}
			}
			if t.Failed() {
				t.Fatalf("seed %d, call %d", seed, number)
			}
		}
	}
}

// P13.4

// TestEachOnce holds what came to each port against what was sent to it: nothing else, each once, in order.
func TestEachOnce(t *testing.T) {
	groups := []int{1, 1, 2, 1, 2, -1, 3}
	w := newWire(t, groups...)
	s := scatter(3)
	sent, came := make([][]note, len(groups)), make([][]note, len(groups))
	take := func(port int) {
		if m, ok := w.Receive(port); ok {
			came[port] = append(came[port], note{m.From, string(m.Bytes)})
		}
	}
	for number := range 20000 {
		from, to, b := s.from(0, 6), s.from(0, 6), strconv.Itoa(number)
		switch s.next() % 4 {
		case 0:
			take(to)
		case 1:
			if w.Inject(to, []byte(b)) == api.OK {
				sent[to] = append(sent[to], note{-1, b})
			}
		default:
			if _, e := w.Send(from, to, []byte(b)); e == api.OK {
				sent[to] = append(sent[to], note{from, b})
			}
		}
	}
	for port := range groups {
		for w.Waiting(port) > 0 {
			take(port)
		}
		if len(sent[port]) < 100 || !slices.Equal(sent[port], came[port]) {
			t.Errorf("port %d: %d were sent, %d came", port, len(sent[port]), len(came[port]))
		}
		for _, n := range came[port] {
			if n.from != -1 && (groups[port] < 0 || groups[n.from] != groups[port]) {
				t.Errorf("port %d has one from %d, which is not of its group", port, n.from)
			}
		}
	}
}

// heard does a scatter of calls, of which those of the group 1 hang on other numbers, and tells all that the other ports were answered.
func heard(t *testing.T, others uint64) []string {
	t.Helper()
	groups := []int{1, 2, 1, 2, -1, 1, 2, 0}
	w := newWire(t, groups...)
	s, own := scatter(11), scatter(others)
	var told []string
	for number := range 4000 {
		from, to, b := s.from(0, 7), s.from(-2, 7), []byte(strconv.Itoa(number))
		what := s.next() % 3
		if groups[from] == 1 {
			if own.next()%2 == 0 {
				w.Send(from, own.from(-3, 7), text(own.from(0, 2049)))
			} else {
				w.Receive(from)
			}
			continue
		}
		if what == 0 {
			m, ok := w.Receive(from)
			told = append(told, strconv.Itoa(m.From)+" "+string(m.Bytes)+" "+strconv.FormatBool(ok))
		} else if what == 1 {
			told = append(told, w.Inject(from, b).Error())
		} else {
			n, e := w.Send(from, to, b)
			told = append(told, strconv.Itoa(n)+" "+e.Error())
		}
		told = append(told, strconv.Itoa(w.Waiting(from)))
	}
	return told
}

func TestGroupsAreApart(t *testing.T) {
	want := heard(t, 0)
	for others := range uint64(20) {
		if got := heard(t, others+1); !slices.Equal(got, want) {
			t.Errorf("what the other groups are told hangs on what the group 1 sends (%d)", others)
		}
	}
	if len(want) < 2000 {
		t.Errorf("only %d answers", len(want))
	}
}

// Where another group's messages would fill a port, they do not come there.
func TestOtherGroupsFillNothing(t *testing.T) {
	w := newWire(t, 1, 1, 2, 2)
	for range 40 {
		w.Send(0, -1, []byte("x"))
		w.Send(0, 2, []byte("x"))
		w.Send(1, 3, []byte("x"))
	}
	wantWaiting(t, w, 0, 16, 0, 0)
	for i := range 16 {
		wantSent(t, w, 2, 3, strconv.Itoa(i), 1)
	}
	for i := range 16 {
		wantReceived(t, w, 3, 2, strconv.Itoa(i))
	}
	wantNothing(t, w, 3)
}
