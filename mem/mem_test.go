package mem

import (
	"bytes"
	"math"
	"testing"

	"palisade/api"
)

const last = math.MaxUint64

// made makes a memory of so many frames.
func made(t *testing.T, frames int) *Memory {
	t.Helper()
	m, e := New(frames)
	if e != api.OK || m == nil {
		t.Fatalf("New(%d) = %v, %d", frames, m, e)
	}
	return m
}

// pattern is bytes of which no two near ones are the same, and none is 0.
func pattern(n, from int) []byte {
	b := make([]byte, n)
	for i := range b {
		b[i] = byte(1 + (from+i)%251)
	}
	return b
}

// filled makes a memory whose bytes are the pattern from 0 on.
func filled(t *testing.T, frames int) *Memory {
	t.Helper()
	m := made(t, frames)
	if e := m.Put(0, pattern(frames*api.Page, 0)); e != api.OK {
		t.Fatalf("Put = %d", e)
	}
	return m
}

// must tells that a memory's bytes, all of them, are the wanted ones.
func must(t *testing.T, m *Memory, want []byte) {
	t.Helper()
	got, e := m.Bytes(0, len(want))
	if e != api.OK || m.Frames()*api.Page != len(want) {
		t.Fatalf("%d frames, Bytes(0, %d) = %d; want %d bytes", m.Frames(), len(want), e, len(want))
	}
	for i := range want {
		if got[i] != want[i] {
			t.Fatalf("at %d stands %d, want %d", i, got[i], want[i])
		}
	}
}

// none has a memory that is nil, and one that no call made.
func none() map[string]*Memory {
	return map[string]*Memory{"nil": nil, "plain": {}}
}

// Addresses: near each power of two, near the ends of a memory of two frames, and near the ends of the types.
func addresses() []uint64 {
	list := []uint64{0, 3, 5, 6, 7, 12, 24, last, last - 3, last - 7, last - 8}
	for i := range 64 {
		p := uint64(1) << i
		list = append(list, p-1, p, p+1, -p)
	}
	for d := range uint64(20) {
		list = append(list, 2*api.Page-10+d, api.Page-10+d)
	}
	return list
}

// Numbers of Go's int: small ones, and near each power of two.
func numbers() []int {
	list := []int{math.MinInt, math.MinInt + 1, math.MaxInt - 1, math.MaxInt}
	for i := -20; i <= 20; i++ {
		list = append(list, i)
	}
	for i := range 63 {
		p := 1 << i
		list = append(list, p-1, p, p+1, -p, -p-1, -p+1)
	}
	return list
}

func isWidth(width int) bool { return width == 1 || width == 4 || width == 8 }

// lies tells whether n bytes from at on lie in that many.
func lies(at uint64, n, size int) bool {
	if n > size || at > uint64(size) {
		return false
	}
	return int(at)+n <= size
}

// P4.1

func TestNew(t *testing.T) {
	for _, frames := range []int{1, 2, 3, 255, 256, 257, api.MaxFrames - 1, api.MaxFrames} {
		m := made(t, frames)
		if got := m.Frames(); got != frames {
			t.Errorf("New(%d): Frames = %d", frames, got)
		}
		size := frames * api.Page
		b, e := m.Bytes(0, size)
		if e != api.OK || len(b) != size || len(bytes.Trim(b, "\x00")) != 0 {
			t.Errorf("New(%d): %d bytes, %d, or not all 0", frames, len(b), e)
		}
		if b, e := m.Bytes(0, size+1); e != api.ErrBound || len(b) != 0 {
			t.Errorf("New(%d): Bytes(0, %d) = %d bytes, %d", frames, size+1, len(b), e)
		}
		if v, e := m.Load(uint64(size-8), 8); e != api.OK || v != 0 {
			t.Errorf("New(%d): its last eight = %d, %d", frames, v, e)
		}
		if v, e := m.Load(uint64(size), 1); e != api.ErrBound || v != 0 {
			t.Errorf("New(%d): one beyond = %d, %d", frames, v, e)
		}
	}
}

func TestNewOfWrongFrames(t *testing.T) {
	for _, frames := range append(numbers(), api.MaxFrames+1, 2*api.MaxFrames, 1<<56, 1<<56+1) {
		if frames >= 1 && frames <= api.MaxFrames {
			continue
		}
		if m, e := New(frames); m != nil || e != api.ErrArg {
			t.Errorf("New(%d) = %v, %d, want nil, ErrArg", frames, m != nil, e)
		}
	}
}

func TestMemoriesAreApart(t *testing.T) {
	a, b := made(t, 1), made(t, 1)
	if e := a.Put(0, pattern(api.Page, 0)); e != api.OK {
		t.Fatal(int(e))
	}
	must(t, a, pattern(api.Page, 0))
	must(t, b, make([]byte, api.Page))
}

// P4.2

func TestExample(t *testing.T) {
	m := made(t, 1)
	if e := m.Store(8, 4, 1<<32-1); e != api.OK {
		t.Errorf("Store = %d", e)
	}
	for _, c := range []struct {
		at    uint64
		width int
		v     uint64
		e     api.Errno
	}{
		{8, 4, last, api.OK},
		{8, 1, 255, api.OK},
		{8, 8, 1<<32 - 1, api.OK},
		{0, 8, 0, api.OK},
		{2, 4, 0, api.ErrAlign},
		{256, 8, 0, api.ErrBound},
	} {
		if v, e := m.Load(c.at, c.width); v != c.v || e != c.e {
			t.Errorf("Load(%d, %d) = %d, %d, want %d, %d", c.at, c.width, v, e, c.v, c.e)
		}
	}
	if b, e := m.Bytes(256, 0); len(b) != 0 || e != api.OK {
		t.Errorf("Bytes(256, 0) = %v, %d", b, e)
	}
}

func TestLoadHasTheLowestByteFirst(t *testing.T) {
	m := made(t, 1)
	m.Put(16, []byte{0x01, 0x02, 0x03, 0x84, 0x05, 0x06, 0x07, 0x88})
	for _, c := range []struct {
		at    uint64
		width int
		want  uint64
	}{
		{16, 1, 0x01},
		{19, 1, 0x84},
		{23, 1, 0x88},
		{16, 4, 0xffffffff84030201},
		{20, 4, 0xffffffff88070605},
		{16, 8, 0x8807060584030201},
	} {
		if v, e := m.Load(c.at, c.width); v != c.want || e != api.OK {
			t.Errorf("Load(%d, %d) = %#x, %d, want %#x", c.at, c.width, v, e, c.want)
		}
	}
}

func TestFourBytesHaveTheirSign(t *testing.T) {
	m := made(t, 1)
	for _, c := range []struct{ stored, loaded uint64 }{
		{0, 0},
		{1, 1},
		{1<<31 - 1, 1<<31 - 1},
		{1 << 31, last - 1<<31 + 1},
		{1<<32 - 1, last},
		{1 << 32, 0},
		{0x123456787fffffff, 0x7fffffff},
		{0x1234567880000000, 0xffffffff80000000},
		{last, last},
	} {
		if e := m.Store(252, 4, c.stored); e != api.OK {
			t.Errorf("Store(252, 4, %#x) = %d", c.stored, e)
		}
		if v, e := m.Load(252, 4); v != c.loaded || e != api.OK {
			t.Errorf("%#x is loaded as %#x, %d, want %#x", c.stored, v, e, c.loaded)
		}
	}
	// One byte and eight have none.
	m.Store(0, 1, last)
	m.Store(8, 8, 1<<63)
	if v, _ := m.Load(0, 1); v != 255 {
		t.Errorf("one byte is loaded as %#x", v)
	}
	if v, _ := m.Load(8, 8); v != 1<<63 {
		t.Errorf("eight bytes are loaded as %#x", v)
	}
}

func TestStoreChangesItsBytesAlone(t *testing.T) {
	for _, width := range []int{1, 4, 8} {
		for at := 0; at < 2*api.Page; at += width {
			m := filled(t, 2)
			want := pattern(2*api.Page, 0)
			const v = 0xf1e2d3c4b5a69788
			for i := range width {
				want[at+i] = byte(uint64(v) >> (8 * i))
			}
			if e := m.Store(uint64(at), width, v); e != api.OK {
				t.Fatalf("Store(%d, %d) = %d", at, width, e)
			}
			must(t, m, want)
		}
	}
}

func TestOrderOfErrors(t *testing.T) {
	m := made(t, 1)
	for _, c := range []struct {
		m     *Memory
		at    uint64
		width int
		want  api.Errno
	}{
		{nil, last, 3, api.ErrNil},
		{nil, 0, 8, api.ErrNil},
		{&Memory{}, last, 3, api.ErrNil},
		{&Memory{}, 0, 1, api.ErrNil},
		{m, last, 0, api.ErrArg},
		{m, last, 2, api.ErrArg},
		{m, 1, 3, api.ErrArg},
		{m, 0, 5, api.ErrArg},
		{m, 0, 7, api.ErrArg},
		{m, 0, 9, api.ErrArg},
		{m, 0, 16, api.ErrArg},
		{m, 0, -1, api.ErrArg},
		{m, 0, -4, api.ErrArg},
		{m, 0, -8, api.ErrArg},
		{m, 0, math.MinInt, api.ErrArg},
		{m, 0, math.MaxInt, api.ErrArg},
		{m, 0, 1<<32 + 8, api.ErrArg},
		{m, 1, 4, api.ErrAlign},
		{m, 2, 4, api.ErrAlign},
		{m, 3, 4, api.ErrAlign},
		{m, 4, 8, api.ErrAlign},
		{m, 253, 4, api.ErrAlign},
		{m, 252, 8, api.ErrAlign},
		{m, 257, 4, api.ErrAlign},
		{m, last, 4, api.ErrAlign},
		{m, last, 8, api.ErrAlign},
		{m, last - 3, 8, api.ErrAlign},
		{m, 256, 1, api.ErrBound},
		{m, 256, 4, api.ErrBound},
		{m, 256, 8, api.ErrBound},
		{m, last, 1, api.ErrBound},
		{m, last - 3, 4, api.ErrBound},
		{m, last - 7, 8, api.ErrBound},
		{m, 1 << 63, 8, api.ErrBound},
		{m, 1 << 32, 4, api.ErrBound},
		{m, 255, 1, api.OK},
		{m, 252, 4, api.OK},
		{m, 248, 8, api.OK},
	} {
		if v, e := c.m.Load(c.at, c.width); v != 0 || e != c.want {
			t.Errorf("Load(%d, %d) = %d, %d, want 0, %d", c.at, c.width, v, e, c.want)
		}
		if e := c.m.Store(c.at, c.width, 0); e != c.want {
			t.Errorf("Store(%d, %d, 0) = %d, want %d", c.at, c.width, e, c.want)
		}
	}
}

func TestLoadAndStoreEverywhere(t *testing.T) {
	const size = 2 * api.Page
	widths := append(numbers(), 1, 4, 8)
	for _, at := range addresses() {
		for _, width := range widths {
			want := api.OK
			if !isWidth(width) {
				want = api.ErrArg
			} else if at%uint64(width) != 0 {
				want = api.ErrAlign
			} else if !lies(at, width, size) {
				want = api.ErrBound
			}
			m := filled(t, 2)
			v, e := m.Load(at, width)
			if e != want || (v == 0) != (want != api.OK) {
				t.Fatalf("Load(%d, %d) = %d, %d, want %d", at, width, v, e, want)
			}
			if e := m.Store(at, width, last); e != want {
				t.Fatalf("Store(%d, %d) = %d, want %d", at, width, e, want)
			}
			if same := m.Same(filled(t, 2)); same != (want != api.OK) {
				t.Fatalf("Store(%d, %d) = %d: is it as it was? %v", at, width, want, same)
			}
		}
	}
}

// P4.3

func TestBytesAndPutAtTheEdges(t *testing.T) {
	for _, c := range []struct {
		at   uint64
		n    int
		want api.Errno
	}{
		{0, 0, api.OK},
		{0, 1, api.OK},
		{0, 512, api.OK},
		{0, 513, api.ErrBound},
		{1, 511, api.OK},
		{1, 512, api.ErrBound},
		{100, 300, api.OK},
		{255, 2, api.OK},
		{511, 1, api.OK},
		{511, 2, api.ErrBound},
		{512, 0, api.OK},
		{512, 1, api.ErrBound},
		{513, 0, api.ErrBound},
		{513, 1, api.ErrBound},
		{last, 0, api.ErrBound},
		{last, 1, api.ErrBound},
		{last, 2, api.ErrBound},
		{last, 513, api.ErrBound},
		{last - 511, 512, api.ErrBound},
		{1 << 63, 0, api.ErrBound},
		{1 << 63, 1, api.ErrBound},
		{1 << 32, 0, api.ErrBound},
	} {
		m, want := filled(t, 2), pattern(2*api.Page, 0)
		b, e := m.Bytes(c.at, c.n)
		if e != c.want || e != api.OK && len(b) != 0 || e == api.OK && !bytes.Equal(b, pattern(c.n, int(c.at))) {
			t.Errorf("Bytes(%d, %d) = %v, %d, want %d", c.at, c.n, b, e, c.want)
		}
		put := pattern(c.n, 77)
		if e := m.Put(c.at, put); e != c.want {
			t.Errorf("Put(%d, %d bytes) = %d, want %d", c.at, c.n, e, c.want)
		}
		if c.want == api.OK {
			copy(want[c.at:], put)
		}
		must(t, m, want)
		if !bytes.Equal(put, pattern(c.n, 77)) {
			t.Errorf("Put(%d, %d bytes) changed what it was given", c.at, c.n)
		}
	}
}

func TestBytesEverywhere(t *testing.T) {
	m := filled(t, 2)
	for _, at := range addresses() {
		for _, n := range numbers() {
			want := api.OK
			if n < 0 {
				want = api.ErrArg
			} else if !lies(at, n, 2*api.Page) {
				want = api.ErrBound
			}
			b, e := m.Bytes(at, n)
			if e != want || e != api.OK && len(b) != 0 || e == api.OK && !bytes.Equal(b, pattern(n, int(at))) {
				t.Fatalf("Bytes(%d, %d) = %v, %d, want %d", at, n, b, e, want)
			}
		}
	}
	must(t, m, pattern(2*api.Page, 0))
}

func TestPutEverywhere(t *testing.T) {
	for _, at := range addresses() {
		for _, n := range []int{0, 1, 2, 7, 8, 255, 256, 257, 511, 512, 513, 1024} {
			m, want := filled(t, 2), pattern(2*api.Page, 0)
			put, e := pattern(n, 100), api.ErrBound
			if lies(at, n, 2*api.Page) {
				copy(want[at:], put)
				e = api.OK
			}
			if got := m.Put(at, put); got != e {
				t.Fatalf("Put(%d, %d bytes) = %d, want %d", at, n, got, e)
			}
			must(t, m, want)
		}
	}
}

func TestPutOfNil(t *testing.T) {
	m := filled(t, 1)
	for _, c := range []struct {
		at   uint64
		want api.Errno
	}{{0, api.OK}, {100, api.OK}, {256, api.OK}, {257, api.ErrBound}, {last, api.ErrBound}} {
		if e := m.Put(c.at, nil); e != c.want {
			t.Errorf("Put(%d, nil) = %d, want %d", c.at, e, c.want)
		}
	}
	must(t, m, pattern(api.Page, 0))
}

func TestWhatIsToldOutIsNew(t *testing.T) {
	m := filled(t, 2)
	a, _ := m.Bytes(10, 20)
	b, _ := m.Bytes(10, 20)
	// The spare room too: whatever stands behind a's length is neither the memory's nor another answer's.
	clear(a[:cap(a)])
	_ = append(b[:0], make([]byte, cap(b))...)
	must(t, m, pattern(2*api.Page, 0))
	none, _ := m.Bytes(10, 0)
	_ = append(none, 1, 2, 3)
	must(t, m, pattern(2*api.Page, 0))
	c, _ := m.Bytes(10, 20)
	clear(a)
	clear(b)
	if !bytes.Equal(c, pattern(20, 10)) {
		t.Errorf("an answer changed with another one: %v", c)
	}
	m.Put(0, make([]byte, 2*api.Page))
	if !bytes.Equal(c, pattern(20, 10)) {
		t.Errorf("an answer changed with the memory: %v", c)
	}
}

func TestWhatIsPutIsNotKept(t *testing.T) {
	m := made(t, 1)
	room := pattern(api.Page, 0)
	put := room[:100]
	if e := m.Put(0, put); e != api.OK {
		t.Fatal(int(e))
	}
	want := make([]byte, api.Page)
	copy(want, pattern(100, 0))
	must(t, m, want)
	clear(room)
	must(t, m, want)
	m.Put(0, pattern(api.Page, 9))
	if len(bytes.Trim(room, "\x00")) != 0 {
		t.Error("what was put changes with the memory")
	}
}

func TestClear(t *testing.T) {
	for frame := range 3 {
		m, want := filled(t, 3), pattern(3*api.Page, 0)
		clear(want[frame*api.Page : (frame+1)*api.Page])
		for range 2 {
			if e := m.Clear(frame); e != api.OK {
				t.Errorf("Clear(%d) = %d", frame, e)
			}
			must(t, m, want)
		}
	}
	m := made(t, api.MaxFrames)
	m.Store(api.MaxFrames*api.Page-8, 8, last)
	if e := m.Clear(api.MaxFrames - 1); e != api.OK || !m.Same(made(t, api.MaxFrames)) {
		t.Errorf("Clear of the last frame that a memory may have = %d, or it is not 0", e)
	}
	if e := m.Clear(api.MaxFrames); e != api.ErrBound {
		t.Errorf("Clear of one more = %d", e)
	}
}

func TestClearOfFramesThatAreNotThere(t *testing.T) {
	m := filled(t, 3)
	// Of the last ones, the address of the frame is one of the memory's again, modulo 2^64.
	for _, frame := range append(numbers(), 3, 4, api.MaxFrames, 1<<56, 1<<56+1, -1<<56, -1<<56+2) {
		if frame >= 0 && frame < 3 {
			continue
		}
		if e := m.Clear(frame); e != api.ErrBound {
			t.Errorf("Clear(%d) = %d, want ErrBound", frame, e)
		}
	}
	must(t, m, pattern(3*api.Page, 0))
}

// P4.4

func TestCloneGoesOnByItself(t *testing.T) {
	m := filled(t, 2)
	c := m.Clone()
	if c == nil || c == m || !c.Same(m) || !m.Same(c) {
		t.Fatal("the clone is not the same, or no other one")
	}
	must(t, c, pattern(2*api.Page, 0))
	m.Store(8, 8, 0)
	m.Clear(1)
	must(t, c, pattern(2*api.Page, 0))
	if c.Same(m) || m.Same(c) {
		t.Error("the memory has changed, and is the same")
	}
	before := m.Clone()
	c.Put(0, pattern(100, 50))
	c.Store(508, 4, 0)
	if !m.Same(before) {
		t.Error("the memory changed with its clone")
	}
	d := c.Clone()
	c.Clear(0)
	if b, e := d.Bytes(0, 100); e != api.OK || !bytes.Equal(b, pattern(100, 50)) {
		t.Errorf("a clone's clone = %v, %d", b, e)
	}
}

func TestCloneOfAsMuchAsMayBe(t *testing.T) {
	m := made(t, api.MaxFrames)
	m.Store(api.MaxFrames*api.Page-8, 8, 5)
	c := m.Clone()
	if v, e := c.Load(api.MaxFrames*api.Page-8, 8); v != 5 || e != api.OK || c.Frames() != api.MaxFrames || !c.Same(m) {
		t.Errorf("its last eight = %d, %d", v, e)
	}
}

func TestSameHoldsEachByte(t *testing.T) {
	for at := range 2 * api.Page {
		a, b := filled(t, 2), filled(t, 2)
		if !a.Same(b) || !b.Same(a) {
			t.Fatal("two with the same bytes are not the same")
		}
		v, _ := b.Load(uint64(at), 1)
		b.Store(uint64(at), 1, v^0x80)
		if a.Same(b) || b.Same(a) {
			t.Fatalf("two that differ at %d are the same", at)
		}
		b.Store(uint64(at), 1, v)
		if !a.Same(b) {
			t.Fatalf("two that are alike again at %d are not the same", at)
		}
	}
}

func TestSameOfSizesAndOfNone(t *testing.T) {
	one, two, empty := made(t, 1), made(t, 2), new(Memory)
	for _, c := range []struct {
		name string
		a, b *Memory
		want bool
	}{
		{"nil, nil", nil, nil, true},
		{"nil, plain", nil, empty, true},
		{"plain, nil", empty, nil, true},
		{"plain, plain", empty, &Memory{}, true},
		{"plain, itself", empty, empty, true},
		{"nil, one", nil, one, false},
		{"one, nil", one, nil, false},
		{"plain, one", empty, one, false},
		{"one, plain", one, empty, false},
		{"one, itself", one, one, true},
		{"one, another", one, made(t, 1), true},
		{"one, two", one, two, false},
		{"two, one", two, one, false},
		{"nil, the clone of nil", nil, (*Memory)(nil).Clone(), true},
	} {
		if got := c.a.Same(c.b); got != c.want {
			t.Errorf("Same of %s = %v", c.name, got)
		}
	}
}

// Rule 1

func TestOfNone(t *testing.T) {
	for name, m := range none() {
		if got := m.Frames(); got != 0 {
			t.Errorf("%s: Frames = %d", name, got)
		}
		if got := m.Clone(); got != nil {
			t.Errorf("%s: Clone = %v", name, got)
		}
		for _, at := range addresses() {
			for _, n := range numbers() {
				if v, e := m.Load(at, n); v != 0 || e != api.ErrNil {
					t.Fatalf("%s: Load(%d, %d) = %d, %d", name, at, n, v, e)
				}
				if e := m.Store(at, n, last); e != api.ErrNil {
					t.Fatalf("%s: Store(%d, %d) = %d", name, at, n, e)
				}
				if b, e := m.Bytes(at, n); len(b) != 0 || e != api.ErrNil {
					t.Fatalf("%s: Bytes(%d, %d) = %v, %d", name, at, n, b, e)
				}
			}
			for _, b := range [][]byte{nil, {}, {1}, pattern(300, 0)} {
				if e := m.Put(at, b); e != api.ErrNil {
					t.Fatalf("%s: Put(%d, %d bytes) = %d", name, at, len(b), e)
				}
			}
		}
		for _, frame := range numbers() {
			if e := m.Clear(frame); e != api.ErrNil {
				t.Fatalf("%s: Clear(%d) = %d", name, frame, e)
			}
		}
		if m.Frames() != 0 || !m.Same(nil) || m.Same(made(t, 1)) {
			t.Errorf("%s: it is a memory now", name)
		}
	}
}

// P4.5

// chance tells numbers that are the same in each run.
type chance uint64

func (c *chance) below(n int) int {
	*c = *c*6364136223846793005 + 1442695040888963407
	return int(uint64(*c)>>33) % n
}

// value tells a number of which all 64 bits are by chance.
func (c *chance) value() uint64 {
	return uint64(c.below(1<<30))<<34 ^ uint64(c.below(1<<30))<<17 ^ uint64(c.below(1<<30))
}

// extended is a number's lowest bytes as a load tells them.
func extended(v uint64, width int) uint64 {
	switch width {
	case 1:
		return uint64(uint8(v))
	case 4:
		return uint64(int64(int32(v)))
	}
	return v
}

// One step by chance on the memory and on plain bytes, which must go on alike.
func step(t *testing.T, c *chance, m *Memory, plain []byte) {
	t.Helper()
	switch c.below(4) {
	case 0, 1:
		width := []int{1, 4, 8}[c.below(3)]
		at, v := c.below(len(plain)/width)*width, c.value()
		if e := m.Store(uint64(at), width, v); e != api.OK {
			t.Fatalf("Store(%d, %d) = %d", at, width, e)
		}
		for i := range width {
			plain[at+i] = byte(v >> (8 * i))
		}
		if got, e := m.Load(uint64(at), width); got != extended(v, width) || e != api.OK {
			t.Fatalf("at %d was stored %#x, width %d, and loaded %#x, %d", at, v, width, got, e)
		}
	case 2:
		at := c.below(len(plain) + 1)
		put := pattern(c.below(len(plain)-at+1), c.below(251))
		if e := m.Put(uint64(at), put); e != api.OK {
			t.Fatalf("Put(%d, %d bytes) = %d", at, len(put), e)
		}
		copy(plain[at:], put)
	case 3:
		frame := c.below(len(plain) / api.Page)
		if e := m.Clear(frame); e != api.OK {
			t.Fatalf("Clear(%d) = %d", frame, e)
		}
		clear(plain[frame*api.Page : (frame+1)*api.Page])
	}
}

func TestWhatIsStoredIsLoadedAndNothingElseChanges(t *testing.T) {
	c := chance(4)
	for frames := 1; frames <= 5; frames++ {
		m, plain := made(t, frames), make([]byte, frames*api.Page)
		for range 500 {
			step(t, &c, m, plain)
			must(t, m, plain)
		}
	}
}

func TestLoadingChangesNothing(t *testing.T) {
	m := filled(t, 2)
	for _, width := range []int{1, 4, 8} {
		for at := uint64(0); at < 600; at++ {
			m.Load(at, width)
			m.Bytes(at, width)
		}
	}
	m.Frames()
	m.Same(m.Clone())
	must(t, m, pattern(2*api.Page, 0))
}
