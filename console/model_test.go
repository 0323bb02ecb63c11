package console

import (
	"bytes"
	"math"
	"strconv"
	"testing"

	"palisade/api"
)

// short tells a list of bytes so that it can be looked at.
func short(b []byte) string {
	if len(b) <= 24 {
		return strconv.Quote(string(b))
	}
	return strconv.Itoa(len(b)) + " bytes, " + strconv.Quote(string(b[:12])) + " to " + strconv.Quote(string(b[len(b)-12:]))
}

// scatter gives numbers that follow no plain order, always the same ones.
type scatter uint64

func (s *scatter) next() uint64 {
	*s = *s*6364136223846793005 + 1442695040888963407
	return uint64(*s>>33) ^ uint64(*s)<<31
}

// from tells a number from low to high, both of them too.
func (s *scatter) from(low, high int) int {
	return low + int(s.next()%uint64(high-low+1))
}

// length tells how many bytes a call is about: mostly few, now and then around the greatest number.
func (s *scatter) length(most int) int {
	switch s.next() % 8 {
	case 0:
		return 0
	case 1:
		return s.from(most-2, most+2)
	case 2, 3:
		return s.from(1, most)
	}
	return s.from(1, most/16)
}

// bytes tells so many bytes, of any values.
func (s *scatter) bytes(length int) []byte {
	b := make([]byte, length)
	for i := range b {
		b[i] = byte(s.next())
	}
	return b
}

// model is what the chapter says of a console, plainly: all that was taken, with how far it is read, byte by byte.
type model struct {
	taken, written []byte
	read, dropped  int
}

func (m *model) input(b []byte) int {
	count := 0
	for _, x := range b {
		if len(m.taken)-m.read == 4096 {
			m.dropped++
			continue
		}
		m.taken = append(m.taken, x)
		count++
	}
	return count
}

func (m *model) take(n int) []byte {
	var b []byte
	for len(b) < n && m.read < len(m.taken) {
		b = append(b, m.taken[m.read])
		m.read++
	}
	return b
}

func (m *model) write(b []byte) int {
	count := 0
	for _, x := range b {
		if len(m.written) < 1048576 {
			m.written = append(m.written, x)
			count++
		}
	}
	return count
}

// act does one call on both, and holds the answers against each other; it tells what was read.
func act(t *testing.T, s *scatter, c *Console, want *model) []byte {
	t.Helper()
	switch s.next() % 8 {
	case 0, 1, 2:
		b := s.bytes(s.length(4096))
		n, e := c.Input(b)
		if w := want.input(b); n != w || e != api.OK {
			t.Errorf("Input of %d bytes = %d, %d; want %d, 0", len(b), n, int(e), w)
		}
	case 3, 4, 5:
		n := s.length(4096)
		if s.next()%8 == 0 {
			n = []int{math.MinInt, -1, math.MaxInt}[s.from(0, 2)]
		}
		got := c.Read(n)
		if w := want.take(n); !bytes.Equal(got, w) {
			t.Errorf("Read(%d) = %s; want %s", n, short(got), short(w))
		}
		return got
	case 6:
		b := s.bytes(s.length(1 << 14))
		n, e := c.Write(b)
		if w := want.write(b); n != w || e != api.OK {
			t.Errorf("Write of %d bytes = %d, %d; want %d, 0", len(b), n, int(e), w)
		}
	default:
		if got := c.Written(); !bytes.Equal(got, want.written) {
			t.Errorf("Written = %s; want %s", short(got), short(want.written))
		}
	}
	return nil
}

// P14.3, and the others over fixed scatters of calls: what is read is a beginning of what was taken, and Came is Read and what waits.

func TestAgainstModel(t *testing.T) {
	for seed := range 12 {
		s := scatter(seed)
		c, want := New(), &model{}
		var read []byte
		for number := range 2000 {
			read = append(read, act(t, &s, c, want)...)
			wantCounts(t, c, len(want.taken), want.dropped, want.read, len(want.written))
			if t.Failed() {
				t.Fatalf("seed %d, call %d", seed, number)
			}
		}
		if !bytes.HasPrefix(want.taken, read) {
			t.Fatalf("seed %d: what was read is no beginning of what was taken", seed)
		}
		waiting := c.Read(math.MaxInt)
		if n := c.Counts(); n.Came != len(read)+len(waiting) || n.Read != n.Came {
			t.Fatalf("seed %d: Counts = %v with %d read and %d that waited", seed, n, len(read), len(waiting))
		}
		if !bytes.Equal(append(read, waiting...), want.taken) {
			t.Fatalf("seed %d: what was read in all is not what was taken", seed)
		}
	}
}

// What waits is told by what can be read, ahead of each Read of all and behind it.
func TestCameIsReadAndWhatWaits(t *testing.T) {
	s := scatter(99)
	c := New()
	read := 0
	for range 2000 {
		c.Input(s.bytes(s.from(0, 3000)))
		read += len(c.Read(s.from(-5, 2500)))
		before := c.Counts()
		if before.Read != read || before.Came < read || before.Came > read+4096 {
			t.Fatalf("Counts = %v with %d read", before, read)
		}
		if s.next()%4 == 0 {
			rest := len(c.Read(math.MaxInt))
			if before.Came != read+rest {
				t.Fatalf("Counts = %v with %d read and %d that wait", before, read, rest)
			}
			read += rest
		}
	}
}

// The same calls are answered alike, whatever other consoles were asked between.
func TestAnsweredAlike(t *testing.T) {
	a, b, other := New(), New(), New()
	s, noise := scatter(5), scatter(6)
	for range 3000 {
		in, out, n := s.bytes(s.length(4096)), s.bytes(s.length(512)), s.from(-3, 3000)
		na, _ := a.Input(in)
		wa, _ := a.Write(out)
		ra := a.Read(n)
		other.Input(noise.bytes(noise.length(4096)))
		other.Read(noise.from(-1, 4097))
		other.Write(noise.bytes(noise.length(512)))
		nb, _ := b.Input(in)
		wb, _ := b.Write(out)
		if rb := b.Read(n); na != nb || wa != wb || !bytes.Equal(ra, rb) || a.Counts() != b.Counts() {
			t.Fatalf("%d %d %s, then %d %d %s", na, wa, short(ra), nb, wb, short(rb))
		}
	}
	if !bytes.Equal(a.Written(), b.Written()) {
		t.Error("what is written is not the same")
	}
}
