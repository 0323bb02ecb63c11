package wire

import (
	"bytes"
	"math"
	"slices"
	"testing"

	"palisade/api"
)

// edgeInts are numbers at both ends of int, and around the edges within.
var edgeInts = []int{math.MinInt, math.MinInt + 1, math.MinInt32, -33, -32, -17, -16, -2, -1, 0, 1, 2, 3, 4, 15, 16, 17, 31, 32, 33, 2047, 2048, 2049, math.MaxInt32, 1 << 32, 1<<32 + 1, 1 << 62, math.MaxInt - 1, math.MaxInt}

func newWire(t *testing.T, groups ...int) *Wire {
	t.Helper()
	w, e := New(groups)
	if w == nil || e != api.OK {
		t.Fatalf("New(%v) = %v, %d", groups, w, int(e))
	}
	return w
}

// alike makes the groups of so many ports, all of them the same.
func alike(ports, group int) []int {
	return slices.Repeat([]int{group}, ports)
}

// text is so many bytes of which no two near ones are the same.
func text(length int) []byte {
	b := make([]byte, length)
	for i := range b {
		b[i] = byte(1 + i%251)
	}
	return b
}

func wantErrno(t *testing.T, what string, got, want api.Errno) {
	t.Helper()
	if got != want {
		t.Errorf("%s = %d, want %d", what, int(got), int(want))
	}
}

func wantSent(t *testing.T, w *Wire, from, to int, b string, count int) {
	t.Helper()
	if n, e := w.Send(from, to, []byte(b)); n != count || e != api.OK {
		t.Errorf("Send(%d, %d, %q) = %d, %d; want %d, 0", from, to, b, n, int(e), count)
	}
}

func wantRefused(t *testing.T, w *Wire, from, to int, b []byte, want api.Errno) {
	t.Helper()
	if n, e := w.Send(from, to, b); n != 0 || e != want {
		t.Errorf("Send(%d, %d, of %d bytes) = %d, %d; want 0, %d", from, to, len(b), n, int(e), int(want))
	}
}

func wantInjected(t *testing.T, w *Wire, to int, b string) {
	t.Helper()
	if e := w.Inject(to, []byte(b)); e != api.OK {
		t.Errorf("Inject(%d, %q) = %d", to, b, int(e))
	}
}

func wantReceived(t *testing.T, w *Wire, port, from int, b string) {
	t.Helper()
	if m, ok := w.Receive(port); !ok || m.From != from || string(m.Bytes) != b {
		t.Errorf("Receive(%d) = {%d %q}, %v; want {%d %q}, true", port, m.From, m.Bytes, ok, from, b)
	}
}

func wantNothing(t *testing.T, w *Wire, port int) {
	t.Helper()
	if m, ok := w.Receive(port); ok || m.From != 0 || len(m.Bytes) != 0 {
		t.Errorf("Receive(%d) = %v, %v; want nothing", port, m, ok)
	}
}

func wantWaiting(t *testing.T, w *Wire, want ...int) {
	t.Helper()
	for port, n := range want {
		if got := w.Waiting(port); got != n {
			t.Errorf("Waiting(%d) = %d, want %d", port, got, n)
		}
	}
}

// fill lets messages come from without to a port until so many wait there.
func fill(t *testing.T, w *Wire, port, count int) {
	t.Helper()
	for w.Waiting(port) < count {
		if e := w.Inject(port, []byte("fill")); e != api.OK {
			t.Fatalf("Inject(%d) with %d waiting = %d", port, w.Waiting(port), int(e))
		}
	}
}

// The chapter's example.

func TestExample(t *testing.T) {
	w := newWire(t, 1, 1, 2)
	wantSent(t, w, 0, 1, "a", 1)
	wantRefused(t, w, 0, 2, []byte("a"), api.ErrNone)
	wantSent(t, w, 0, -1, "b", 1)
	wantReceived(t, w, 1, 0, "a")
	wantNothing(t, w, 2)
	wantReceived(t, w, 1, 0, "b")
	wantNothing(t, w, 1)
	wantNothing(t, w, 0)
}

// P13.1

func TestNew(t *testing.T) {
	for count := range 70 {
		w, e := New(alike(count, 5))
		if count < 1 || count > 32 {
			if w != nil || e != api.ErrArg {
				t.Errorf("New of %d groups = %v, %d; want nil, 2", count, w, int(e))
			}
			continue
		}
		if w == nil || e != api.OK {
			t.Fatalf("New of %d groups = %v, %d", count, w, int(e))
		}
		for port := range count {
			wantWaiting(t, w, alike(count, 0)...)
			wantNothing(t, w, port)
		}
		wantErrno(t, "Inject into the last", w.Inject(count-1, nil), api.OK)
		wantErrno(t, "Inject beyond", w.Inject(count, nil), api.ErrArg)
	}
	for _, groups := range [][]int{nil, {}, make([]int, 0, 8), make([]int, 33), make([]int, 65536)} {
		if w, e := New(groups); w != nil || e != api.ErrArg {
			t.Errorf("New of %d groups = %v, %d; want nil, 2", len(groups), w, int(e))
		}
	}
}

func TestNewAnyGroup(t *testing.T) {
	for _, a := range edgeInts {
		for _, b := range edgeInts {
			w := newWire(t, a, b)
			if a >= 0 && a == b {
				wantSent(t, w, 0, 1, "x", 1)
				wantSent(t, w, 1, -1, "y", 1)
				continue
			}
			wantRefused(t, w, 0, 1, nil, api.ErrNone)
			wantRefused(t, w, 1, 0, nil, api.ErrNone)
			for port, group := range []int{a, b} {
				if group < 0 {
					wantRefused(t, w, port, -1, nil, api.ErrNone)
				} else {
					wantSent(t, w, port, -1, "z", 0)
				}
			}
			wantWaiting(t, w, 0, 0)
		}
	}
}

func TestNewKeepsNoSlice(t *testing.T) {
	whole := []int{1, 1, 2, -1, 1, 1}
	groups := whole[:4]
	w := newWire(t, groups...)
	other, _ := New(groups)
	for i := range whole {
		whole[i] = 2
	}
	wantSent(t, w, 0, 1, "a", 1)
	wantSent(t, other, 0, 1, "a", 1)
	wantRefused(t, other, 0, 2, nil, api.ErrNone)
	wantRefused(t, other, 3, -1, nil, api.ErrNone)
	other.Join(0, 9)
	other.Join(3, 9)
	if !slices.Equal(whole, alike(6, 2)) {
		t.Errorf("what was handed in is %v", whole)
	}
	wantRefused(t, other, 0, 4, nil, api.ErrArg)
}

func TestTwoWires(t *testing.T) {
	groups := alike(2, 0)
	a, _ := New(groups)
	b, _ := New(groups)
	wantSent(t, a, 0, 1, "a", 1)
	a.Join(0, -1)
	wantWaiting(t, b, 0, 0)
	wantSent(t, b, 0, 1, "b", 1)
	wantReceived(t, a, 1, 0, "a")
	wantReceived(t, b, 1, 0, "b")
}

func TestJoinEachPort(t *testing.T) {
	for _, ports := range []int{1, 2, 5, 32} {
		w := newWire(t, alike(ports, 1)...)
		for port := range ports {
			other := (port + 1) % ports
			wantErrno(t, "Join out", w.Join(port, -1), api.OK)
			wantRefused(t, w, port, -1, nil, api.ErrNone)
			wantRefused(t, w, other, port, nil, api.ErrNone)
			if ports > 1 {
				wantSent(t, w, other, -1, "x", ports-2)
			}
			wantErrno(t, "Join back", w.Join(port, 1), api.OK)
			wantSent(t, w, port, -1, "y", ports-1)
			for p := range ports {
				for w.Waiting(p) > 0 {
					w.Receive(p)
				}
			}
		}
	}
}

func TestJoinNoPort(t *testing.T) {
	for _, ports := range []int{1, 3, 32} {
		w := newWire(t, alike(ports, 1)...)
		for _, port := range append(edgeInts, ports, ports+1) {
			if port >= 0 && port < ports {
				continue
			}
			for _, group := range edgeInts {
				wantErrno(t, "Join of no port", w.Join(port, group), api.ErrArg)
			}
		}
		wantSent(t, w, 0, -1, "x", ports-1)
	}
}

func TestJoinAnyGroup(t *testing.T) {
	for _, group := range edgeInts {
		w := newWire(t, 7, 8, 9)
		wantErrno(t, "Join", w.Join(0, group), api.OK)
		wantErrno(t, "Join", w.Join(2, group), api.OK)
		if group < 0 {
			wantRefused(t, w, 0, 2, nil, api.ErrNone)
			wantRefused(t, w, 2, -1, nil, api.ErrNone)
		} else {
			wantSent(t, w, 0, 2, "x", 1)
			wantSent(t, w, 2, -1, "y", 1)
			wantReceived(t, w, 0, 2, "y")
		}
		wantRefused(t, w, 0, 1, nil, api.ErrNone)
		wantSent(t, w, 1, -1, "z", 0)
	}
}

// What waits at a port stays through each Join, of it and of who sent it, and what comes later waits behind it.
func TestJoinLeavesWhatWaits(t *testing.T) {
	w := newWire(t, 1, 1, 2)
	wantSent(t, w, 0, 1, "ahead", 1)
	wantInjected(t, w, 1, "without")
	for _, group := range []int{-1, 2, math.MinInt, math.MaxInt, 0, 2} {
		wantErrno(t, "Join", w.Join(1, group), api.OK)
		wantErrno(t, "Join", w.Join(0, -5), api.OK)
		wantWaiting(t, w, 0, 2, 0)
	}
	wantSent(t, w, 2, 1, "behind", 1)
	w.Join(1, -1)
	wantRefused(t, w, 2, 1, nil, api.ErrNone)
	wantReceived(t, w, 1, 0, "ahead")
	wantReceived(t, w, 1, -1, "without")
	w.Join(1, 1)
	w.Join(0, 1)
	wantSent(t, w, 0, 1, "back", 1)
	wantReceived(t, w, 1, 2, "behind")
	wantReceived(t, w, 1, 0, "back")
	wantNothing(t, w, 1)
}

func TestJoinOfAFullPort(t *testing.T) {
	w := newWire(t, 1, 2)
	fill(t, w, 1, 16)
	wantErrno(t, "Join", w.Join(1, 1), api.OK)
	wantWaiting(t, w, 0, 16)
	wantRefused(t, w, 0, 1, nil, api.ErrFull)
	wantSent(t, w, 0, -1, "x", 0)
	wantReceived(t, w, 1, -1, "fill")
	wantSent(t, w, 0, 1, "x", 1)
}

// P13.2

func TestSendEachToEach(t *testing.T) {
	groups := []int{3, 0, 3, -1, 0, math.MaxInt, 3, -1, math.MinInt, math.MaxInt}
	for from := range groups {
		for to := range groups {
			w := newWire(t, groups...)
			want := alike(len(groups), 0)
			if from != to && groups[from] >= 0 && groups[from] == groups[to] {
				wantSent(t, w, from, to, "it", 1)
				want[to] = 1
				wantWaiting(t, w, want...)
				wantReceived(t, w, to, from, "it")
			} else {
				wantRefused(t, w, from, to, []byte("it"), api.ErrNone)
				wantWaiting(t, w, want...)
			}
		}
	}
}

func TestSendFromNoPort(t *testing.T) {
	for _, ports := range []int{1, 2, 32} {
		w := newWire(t, alike(ports, 1)...)
		for _, from := range append(edgeInts, ports) {
			if from >= 0 && from < ports {
				continue
			}
			for _, to := range append(edgeInts, ports-1, ports) {
				wantRefused(t, w, from, to, []byte("x"), api.ErrArg)
				wantRefused(t, w, from, to, make([]byte, 2049), api.ErrArg)
			}
		}
		wantWaiting(t, w, alike(ports, 0)...)
	}
}

func TestSendBeyond(t *testing.T) {
	for _, ports := range []int{1, 2, 31, 32} {
		w := newWire(t, alike(ports, 1)...)
		for _, to := range append(edgeInts, ports, ports+1) {
			if to >= ports {
				wantRefused(t, w, 0, to, []byte("x"), api.ErrArg)
			}
		}
		wantWaiting(t, w, alike(ports, 0)...)
		if ports > 1 {
			wantSent(t, w, 0, ports-1, "last", 1)
			wantReceived(t, w, ports-1, 0, "last")
		}
	}
}

// Each number below 0 is to all, whichever it is.
func TestSendToAllByAnyNumber(t *testing.T) {
	for _, to := range edgeInts {
		if to >= 0 {
			continue
		}
		w := newWire(t, 4, 5, 4, -1, 4)
		wantSent(t, w, 2, to, "all", 2)
		wantWaiting(t, w, 1, 0, 0, 0, 1)
		wantReceived(t, w, 0, 2, "all")
		wantReceived(t, w, 4, 2, "all")
	}
}

func TestSendToItself(t *testing.T) {
	w := newWire(t, 1, 1, -1)
	for port := range 3 {
		wantRefused(t, w, port, port, []byte("x"), api.ErrNone)
	}
	fill(t, w, 0, 16)
	wantRefused(t, w, 0, 0, nil, api.ErrNone)
	wantWaiting(t, w, 16, 0, 0)
}

func TestSendLengths(t *testing.T) {
	for _, length := range []int{0, 1, 8, 255, 256, 257, 2047, 2048, 2049, 4096, 1 << 20} {
		w := newWire(t, 1, 1, 1)
		for _, to := range []int{1, -1} {
			if length > 2048 {
				wantRefused(t, w, 0, to, text(length), api.ErrBig)
				wantWaiting(t, w, 0, 0, 0)
				continue
			}
			wantSent(t, w, 0, to, string(text(length)), map[int]int{1: 1, -1: 2}[to])
			wantReceived(t, w, 1, 0, string(text(length)))
		}
	}
}

func TestSendNothing(t *testing.T) {
	w := newWire(t, 1, 1)
	for _, b := range [][]byte{nil, {}, make([]byte, 0, 9)} {
		if n, e := w.Send(0, 1, b); n != 1 || e != api.OK {
			t.Errorf("Send of no byte = %d, %d", n, int(e))
		}
		if n, e := w.Send(0, -1, b); n != 1 || e != api.OK {
			t.Errorf("Send of no byte to all = %d, %d", n, int(e))
		}
		wantErrno(t, "Inject of no byte", w.Inject(1, b), api.OK)
		wantWaiting(t, w, 0, 3)
		wantReceived(t, w, 1, 0, "")
		wantReceived(t, w, 1, 0, "")
		wantReceived(t, w, 1, -1, "")
		wantNothing(t, w, 1)
	}
}

// What lies behind a message's length is none of it, and does not count.
func TestSendAPart(t *testing.T) {
	w := newWire(t, 1, 1)
	long := text(5000)
	if n, e := w.Send(0, 1, long[:2048]); n != 1 || e != api.OK {
		t.Errorf("Send of a part = %d, %d", n, int(e))
	}
	wantErrno(t, "Inject of a part", w.Inject(1, long[7:10]), api.OK)
	wantReceived(t, w, 1, 0, string(text(2048)))
	wantReceived(t, w, 1, -1, string(text(10)[7:]))
}

func TestSendUntilFull(t *testing.T) {
	w := newWire(t, 1, 1, 1)
	for i := range 16 {
		wantWaiting(t, w, 0, i, 0)
		wantSent(t, w, 2*(i%2), 1, string(rune('a'+i)), 1)
	}
	for range 3 {
		wantRefused(t, w, 0, 1, []byte("z"), api.ErrFull)
		wantRefused(t, w, 2, 1, nil, api.ErrFull)
		wantWaiting(t, w, 0, 16, 0)
	}
	wantSent(t, w, 1, 0, "others have room", 1)
	for i := range 40 {
		wantReceived(t, w, 1, 2*(i%2), string(rune('a'+i)))
		wantWaiting(t, w, 1, 15, 0)
		wantSent(t, w, 2*(i%2), 1, string(rune('a'+i+16)), 1)
		wantRefused(t, w, 0, 1, nil, api.ErrFull)
	}
}

func TestSendToAllWithRoom(t *testing.T) {
	w := newWire(t, 1, 1, 1, 2, 1, -1, 1)
	fill(t, w, 1, 16)
	fill(t, w, 2, 15)
	fill(t, w, 3, 15)
	fill(t, w, 5, 15)
	fill(t, w, 6, 16)
	wantSent(t, w, 0, -1, "one", 2)
	wantWaiting(t, w, 0, 16, 16, 15, 1, 15, 16)
	wantSent(t, w, 0, -1, "two", 1)
	wantWaiting(t, w, 0, 16, 16, 15, 2, 15, 16)
	fill(t, w, 4, 16)
	wantSent(t, w, 0, -1, "three", 0)
	wantWaiting(t, w, 0, 16, 16, 15, 16, 15, 16)
	wantReceived(t, w, 4, 0, "one")
	wantReceived(t, w, 4, 0, "two")
	for range 15 {
		wantReceived(t, w, 2, -1, "fill")
	}
	wantReceived(t, w, 2, 0, "one")
	wantNothing(t, w, 2)
	for range 16 {
		wantReceived(t, w, 1, -1, "fill")
	}
	wantNothing(t, w, 1)
}

// A sender at which 16 wait sends as any other.
func TestSendFromAFullPort(t *testing.T) {
	w := newWire(t, 1, 1, 1)
	fill(t, w, 0, 16)
	wantSent(t, w, 0, 1, "x", 1)
	wantSent(t, w, 0, -1, "y", 2)
	wantWaiting(t, w, 16, 2, 1)
}

func TestSendToAllAlone(t *testing.T) {
	for _, groups := range [][]int{{0}, {1}, {1, 2, 3}, {5, -1, -5}, {math.MaxInt, math.MinInt}} {
		w := newWire(t, groups...)
		wantSent(t, w, 0, -1, "x", 0)
		wantWaiting(t, w, alike(len(groups), 0)...)
	}
}

func TestSendToAllOf32(t *testing.T) {
	w := newWire(t, alike(32, 0)...)
	for from := range 32 {
		if from < 16 {
			wantSent(t, w, from, math.MinInt, "x", 31)
		} else if from == 16 {
			// Of the first 16 each lacks what it sent itself, and has room for one more.
			wantSent(t, w, from, -1, "y", 16)
		} else {
			wantSent(t, w, from, -1, "z", 0)
		}
	}
	wantWaiting(t, w, alike(32, 16)...)
}

func TestSendErrorsInOrder(t *testing.T) {
	w := newWire(t, 1, 1, 2, -1)
	for port := range 4 {
		fill(t, w, port, 16)
	}
	big := make([]byte, 2049)
	for _, b := range [][]byte{nil, text(2048), big} {
		for _, from := range []int{-1, 4} {
			for _, to := range []int{-1, 0, 1, 2, 3, 4} {
				wantRefused(t, w, from, to, b, api.ErrArg)
			}
		}
		for from := range 4 {
			wantRefused(t, w, from, 4, b, api.ErrArg)
		}
	}
	for from := range 4 {
		for to := -1; to < 4; to++ {
			wantRefused(t, w, from, to, big, api.ErrBig)
		}
	}
	for _, pair := range [][2]int{{0, 0}, {0, 2}, {0, 3}, {2, 0}, {2, 2}, {3, 0}, {3, 3}, {3, -1}} {
		wantRefused(t, w, pair[0], pair[1], text(2048), api.ErrNone)
	}
	wantRefused(t, w, 0, 1, text(2048), api.ErrFull)
	wantSent(t, w, 0, -1, "x", 0)
	wantWaiting(t, w, 16, 16, 16, 16)
	for port := range 4 {
		for range 16 {
			wantReceived(t, w, port, -1, "fill")
		}
	}
}

// P13.3

func TestInjectEachPort(t *testing.T) {
	for _, ports := range []int{1, 3, 32} {
		for port := range ports {
			w := newWire(t, alike(ports, port%3-1)...)
			want := alike(ports, 0)
			for i := range 16 {
				wantInjected(t, w, port, string(rune('a'+i)))
				want[port]++
				wantWaiting(t, w, want...)
			}
			wantErrno(t, "Inject where 16 wait", w.Inject(port, nil), api.ErrFull)
			wantWaiting(t, w, want...)
			for i := range 16 {
				wantReceived(t, w, port, -1, string(rune('a'+i)))
			}
			wantNothing(t, w, port)
			wantInjected(t, w, port, "again")
			wantReceived(t, w, port, -1, "again")
		}
	}
}

func TestInjectWrong(t *testing.T) {
	w := newWire(t, 1, -1)
	fill(t, w, 1, 16)
	for _, b := range [][]byte{nil, text(1), text(2048), text(2049)} {
		for _, to := range edgeInts {
			if to < 0 || to > 1 {
				wantErrno(t, "Inject into no port", w.Inject(to, b), api.ErrArg)
			}
		}
	}
	for _, length := range []int{2049, 4096, 1 << 20} {
		wantErrno(t, "Inject of too much", w.Inject(0, text(length)), api.ErrBig)
		wantErrno(t, "Inject of too much where 16 wait", w.Inject(1, text(length)), api.ErrBig)
	}
	wantErrno(t, "Inject where 16 wait", w.Inject(1, text(2048)), api.ErrFull)
	wantWaiting(t, w, 0, 16)
	for _, length := range []int{0, 1, 2047, 2048} {
		wantInjected(t, w, 0, string(text(length)))
		wantReceived(t, w, 0, -1, string(text(length)))
	}
}

// A port of no group has what comes from without, and what came while it was of one.
func TestReceiveOfNoGroup(t *testing.T) {
	w := newWire(t, 1, 1)
	wantSent(t, w, 0, 1, "a", 1)
	w.Join(1, -1)
	wantInjected(t, w, 1, "b")
	wantReceived(t, w, 1, 0, "a")
	wantReceived(t, w, 1, -1, "b")
	wantNothing(t, w, 1)
}

func TestReceiveInOrder(t *testing.T) {
	w := newWire(t, 1, 1, 1, 2)
	wantSent(t, w, 2, 1, "first", 1)
	wantInjected(t, w, 1, "second")
	wantSent(t, w, 0, -9, "third", 2)
	wantSent(t, w, 0, 1, "fourth", 1)
	wantWaiting(t, w, 0, 4, 1, 0)
	wantReceived(t, w, 1, 2, "first")
	wantSent(t, w, 2, -1, "fifth", 2)
	wantReceived(t, w, 1, -1, "second")
	wantReceived(t, w, 1, 0, "third")
	wantWaiting(t, w, 1, 2, 1, 0)
	wantReceived(t, w, 1, 0, "fourth")
	wantReceived(t, w, 1, 2, "fifth")
	for range 3 {
		wantNothing(t, w, 1)
		wantWaiting(t, w, 1, 0, 1, 0)
	}
	wantReceived(t, w, 0, 2, "fifth")
	wantReceived(t, w, 2, 0, "third")
}

func TestNoPort(t *testing.T) {
	for _, ports := range []int{1, 2, 32} {
		w := newWire(t, alike(ports, 1)...)
		for port := range ports {
			fill(t, w, port, 3)
		}
		for _, port := range append(edgeInts, ports, ports+1) {
			if port >= 0 && port < ports {
				continue
			}
			wantNothing(t, w, port)
			if n := w.Waiting(port); n != 0 {
				t.Errorf("Waiting(%d) of %d = %d", port, ports, n)
			}
		}
		wantWaiting(t, w, alike(ports, 3)...)
	}
}

// DOC.md, rule 4

func TestBytesAreNotKept(t *testing.T) {
	w := newWire(t, 1, 1, 1)
	whole := []byte("message and more")
	b := whole[:7]
	w.Send(0, 1, b)
	w.Send(0, -1, b)
	w.Inject(1, b)
	if string(whole) != "message and more" {
		t.Errorf("what was handed in is %q", whole)
	}
	clear(whole)
	wantReceived(t, w, 1, 0, "message")
	wantReceived(t, w, 1, 0, "message")
	wantReceived(t, w, 1, -1, "message")
	wantReceived(t, w, 2, 0, "message")
}

func TestBytesAreNotShared(t *testing.T) {
	w := newWire(t, alike(5, 1)...)
	handed := text(300)
	w.Send(0, -1, handed)
	w.Send(0, -1, handed)
	for port := 1; port < 5; port++ {
		m, _ := w.Receive(port)
		if !bytes.Equal(m.Bytes, text(300)) {
			t.Errorf("Receive(%d) is not what was sent", port)
		}
		whole := m.Bytes[:cap(m.Bytes)]
		for i := range whole {
			whole[i] = 99
		}
		_ = append(m.Bytes, 1, 2, 3)
	}
	for port := 1; port < 5; port++ {
		wantReceived(t, w, port, 0, string(text(300)))
	}
	if !bytes.Equal(handed, text(300)) {
		t.Error("what was handed in changed")
	}
}

func TestToldBytesStay(t *testing.T) {
	w := newWire(t, 1, 1)
	wantSent(t, w, 0, 1, "told", 1)
	m, _ := w.Receive(1)
	for range 40 {
		w.Send(0, 1, []byte("over"))
		w.Receive(1)
	}
	if string(m.Bytes) != "told" {
		t.Errorf("what was told is %q", m.Bytes)
	}
}

// DOC.md, rule 1

func TestNoWire(t *testing.T) {
	var none *Wire
	for _, w := range []*Wire{none, {}, new(Wire)} {
		for _, n := range edgeInts {
			wantErrno(t, "Join", w.Join(n, n), api.ErrNil)
			wantErrno(t, "Inject", w.Inject(n, nil), api.ErrNil)
			wantErrno(t, "Inject of too much", w.Inject(n, make([]byte, 2049)), api.ErrNil)
			wantNothing(t, w, n)
			if got := w.Waiting(n); got != 0 {
				t.Errorf("Waiting(%d) = %d", n, got)
			}
			for _, to := range edgeInts {
				wantRefused(t, w, n, to, []byte("x"), api.ErrNil)
				wantRefused(t, w, n, to, make([]byte, 2049), api.ErrNil)
			}
		}
		if w != nil && w.ports != nil {
			t.Error("a wire that no call made has changed")
		}
	}
}
