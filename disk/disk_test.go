package disk

import (
	"bytes"
	"math"
	"slices"
	"testing"

	"palisade/api"
	"palisade/mem"
)

// edgeInts are numbers at both ends of int, and around the edges within.
var edgeInts = []int{math.MinInt, math.MinInt + 1, math.MinInt32, -65536, -257, -256, -8, -2, -1, 0, 1, 2, 3, 4, 5, 7, 8, 9, 255, 256, 257, 65535, 65536, 65537, math.MaxInt32, 1 << 32, 1<<32 + 1, 1 << 56, 1<<56 + 1, 1 << 62, math.MaxInt - 1, math.MaxInt}

func newDisk(t *testing.T, blocks int) *Disk {
	t.Helper()
	d, e := New(blocks)
	if d == nil || e != api.OK {
		t.Fatalf("New(%d) = %v, %d", blocks, d, int(e))
	}
	return d
}

func newMemory(t *testing.T, frames int) *mem.Memory {
	t.Helper()
	m, e := mem.New(frames)
	if e != api.OK {
		t.Fatalf("mem.New(%d) = %d", frames, int(e))
	}
	return m
}

// pattern is a page of which no two near bytes are the same, none is 0, and which no other number gives (from 0 to 250).
func pattern(from int) []byte {
	b := make([]byte, api.Page)
	for i := range b {
		b[i] = byte(1 + (from+i)%251)
	}
	return b
}

func zeroes() []byte { return make([]byte, api.Page) }

func wantErrno(t *testing.T, what string, got, want api.Errno) {
	t.Helper()
	if got != want {
		t.Errorf("%s = %d, want %d", what, int(got), int(want))
	}
}

func wantBlock(t *testing.T, d *Disk, n int, want []byte) {
	t.Helper()
	if b, e := d.Block(n); e != api.OK || !bytes.Equal(b, want) {
		t.Errorf("Block(%d) = %v, %d; want %v", n, b, int(e), want)
	}
}

func wantFrame(t *testing.T, m *mem.Memory, n int, want []byte) {
	t.Helper()
	if b, e := m.Bytes(uint64(n*api.Page), api.Page); e != api.OK || !bytes.Equal(b, want) {
		t.Errorf("frame %d = %v, %d; want %v", n, b, int(e), want)
	}
}

func wantPending(t *testing.T, d *Disk, want ...Request) {
	t.Helper()
	if got := d.Pending(); !slices.Equal(got, want) {
		t.Errorf("Pending = %v, want %v", got, want)
	}
}

func wantComplete(t *testing.T, d *Disk, m *mem.Memory, k int, want Request, e api.Errno) {
	t.Helper()
	if got, ge := d.Complete(m, k); got != want || ge != e {
		t.Errorf("Complete(%d) = %v, %d; want %v, %d", k, got, int(ge), want, int(e))
	}
}

func putFrame(t *testing.T, m *mem.Memory, n int, b []byte) {
	t.Helper()
	wantErrno(t, "mem Put", m.Put(uint64(n*api.Page), b), api.OK)
}

// full makes a disk of four blocks with eight requests that are pending: the Ids 10 to 17, for the frame 0.
func full(t *testing.T) (*Disk, []Request) {
	t.Helper()
	d := newDisk(t, 4)
	var list []Request
	for i := range 8 {
		r := Request{Id: 10 + i, Write: i%3 == 0, Block: i % 4}
		wantErrno(t, "Submit", d.Submit(r), api.OK)
		list = append(list, r)
	}
	return d, list
}

// The chapter's example.

func TestExample(t *testing.T) {
	d := newDisk(t, 4)
	m := newMemory(t, 1)
	putFrame(t, m, 0, pattern(7))
	r := Request{Id: 1, Write: true, Block: 2, Frame: 0}
	wantErrno(t, "Submit", d.Submit(r), api.OK)
	wantErrno(t, "Submit again", d.Submit(r), api.ErrThere)
	wantComplete(t, d, m, 1, Request{}, api.ErrNone)
	wantComplete(t, d, m, 0, r, api.OK)
	wantBlock(t, d, 2, pattern(7))
	wantErrno(t, "Submit beyond", d.Submit(Request{Id: 2, Block: 4}), api.ErrBound)
}

// P12.1

func TestNew(t *testing.T) {
	for _, blocks := range []int{1, 2, 3, 4, 255, 256, 65535, 65536} {
		d := newDisk(t, blocks)
		if got := d.Blocks(); got != blocks {
			t.Errorf("New(%d): Blocks = %d", blocks, got)
		}
		for n := range blocks {
			if b, e := d.Block(n); e != api.OK || !bytes.Equal(b, zeroes()) {
				t.Fatalf("New(%d): Block(%d) = %v, %d", blocks, n, b, int(e))
			}
		}
		wantPending(t, d)
		_, e := d.Block(blocks)
		wantErrno(t, "Block beyond", e, api.ErrBound)
	}
}

func TestNewWrong(t *testing.T) {
	for _, blocks := range edgeInts {
		d, e := New(blocks)
		if blocks >= 1 && blocks <= 65536 {
			if d.Blocks() != blocks || e != api.OK {
				t.Errorf("New(%d): Blocks = %d, %d", blocks, d.Blocks(), int(e))
			}
		} else if d != nil || e != api.ErrArg {
			t.Errorf("New(%d) = %v, %d; want nil, 2", blocks, d, int(e))
		}
	}
}

func TestBlocksStay(t *testing.T) {
	d, _ := full(t)
	m := newMemory(t, 1)
	d.Put(3, pattern(1))
	d.Complete(m, 0)
	if d.Blocks() != 4 {
		t.Errorf("Blocks = %d", d.Blocks())
	}
}

func TestTwoDisks(t *testing.T) {
	a, b := newDisk(t, 2), newDisk(t, 2)
	r := Request{Id: 1, Block: 1}
	wantErrno(t, "Submit", a.Submit(r), api.OK)
	wantErrno(t, "Put", a.Put(1, pattern(3)), api.OK)
	wantPending(t, b)
	wantBlock(t, b, 1, zeroes())
	wantErrno(t, "Submit to the other", b.Submit(r), api.OK)
}

// P12.2

func TestSubmitBlocks(t *testing.T) {
	for _, blocks := range []int{1, 2, 4, 65536} {
		for _, block := range edgeInts {
			d := newDisk(t, blocks)
			r := Request{Id: 5, Block: block}
			if block >= 0 && block < blocks {
				wantErrno(t, "Submit", d.Submit(r), api.OK)
				wantPending(t, d, r)
			} else {
				wantErrno(t, "Submit of no block", d.Submit(r), api.ErrBound)
				wantPending(t, d)
			}
		}
	}
}

func TestSubmitAnyId(t *testing.T) {
	m := newMemory(t, 1)
	for _, id := range edgeInts {
		d := newDisk(t, 1)
		r := Request{Id: id}
		other := Request{Id: id ^ 1, Write: true}
		wantErrno(t, "Submit", d.Submit(r), api.OK)
		wantErrno(t, "Submit again", d.Submit(r), api.ErrThere)
		wantErrno(t, "Submit of another", d.Submit(other), api.OK)
		wantPending(t, d, r, other)
		wantComplete(t, d, m, 0, r, api.OK)
		wantPending(t, d, other)
		wantErrno(t, "Submit when done", d.Submit(r), api.OK)
		wantPending(t, d, other, r)
	}
}

func TestSameIdOtherwise(t *testing.T) {
	d := newDisk(t, 4)
	r := Request{Id: 6, Block: 1, Frame: 2}
	wantErrno(t, "Submit", d.Submit(r), api.OK)
	for _, other := range []Request{{Id: 6}, {Id: 6, Write: true, Block: 1, Frame: 2}, {Id: 6, Block: 2, Frame: 2}, {Id: 6, Block: 1, Frame: 3}} {
		wantErrno(t, "Submit of that Id", d.Submit(other), api.ErrThere)
	}
	wantPending(t, d, r)
	same := r
	same.Id = 7
	wantErrno(t, "the same by another Id", d.Submit(same), api.OK)
	wantPending(t, d, r, same)
}

func TestIdFreeAfterErrBound(t *testing.T) {
	d := newDisk(t, 1)
	m := newMemory(t, 1)
	r := Request{Id: 3, Frame: 1}
	wantErrno(t, "Submit", d.Submit(r), api.OK)
	wantComplete(t, d, m, 0, r, api.ErrBound)
	wantPending(t, d)
	wantErrno(t, "Submit again", d.Submit(r), api.OK)
	wantErrno(t, "refused Ids are free", d.Submit(Request{Id: 4, Block: 9}), api.ErrBound)
	wantErrno(t, "refused Ids are free", d.Submit(Request{Id: 4}), api.OK)
}

func TestSubmitAnyFrame(t *testing.T) {
	for _, frame := range edgeInts {
		d := newDisk(t, 1)
		r := Request{Id: 1, Frame: frame}
		wantErrno(t, "Submit", d.Submit(r), api.OK)
		wantPending(t, d, r)
	}
}

func TestEightAndNine(t *testing.T) {
	d, list := full(t)
	m := newMemory(t, 1)
	wantPending(t, d, list...)
	ninth := Request{Id: 18, Block: 3}
	wantErrno(t, "the ninth", d.Submit(ninth), api.ErrFull)
	wantPending(t, d, list...)
	for range 20 {
		wantComplete(t, d, m, 3, list[3], api.OK)
		wantErrno(t, "one is done", d.Submit(ninth), api.OK)
		wantErrno(t, "full again", d.Submit(Request{Id: -1}), api.ErrFull)
		list = append(append(slices.Clone(list[:3]), list[4:]...), ninth)
		wantPending(t, d, list...)
		ninth.Id++
	}
}

func TestSubmitErrorsInOrder(t *testing.T) {
	d, list := full(t)
	for _, block := range []int{-1, 4, math.MinInt, math.MaxInt} {
		wantErrno(t, "no block, there, full", d.Submit(Request{Id: 10, Block: block}), api.ErrBound)
		wantErrno(t, "no block, full", d.Submit(Request{Id: 99, Block: block}), api.ErrBound)
	}
	for _, r := range list {
		wantErrno(t, "there, full", d.Submit(r), api.ErrThere)
	}
	wantErrno(t, "full", d.Submit(Request{Id: 99}), api.ErrFull)
	wantPending(t, d, list...)

	few := newDisk(t, 1)
	few.Submit(Request{Id: 1})
	wantErrno(t, "no block, there", few.Submit(Request{Id: 1, Block: 1}), api.ErrBound)
}

func TestPendingIsTheCallers(t *testing.T) {
	d := newDisk(t, 4)
	a, b := Request{Id: 1, Block: 1}, Request{Id: 2, Block: 2}
	d.Submit(a)
	d.Submit(b)
	first := d.Pending()
	whole := first[:cap(first)]
	for i := range whole {
		whole[i] = Request{Id: 77, Write: true, Block: 3}
	}
	wantPending(t, d, a, b)
	held := d.Pending()
	d.Submit(Request{Id: 3})
	d.Complete(newMemory(t, 1), 0)
	if held[0] != a || held[1] != b {
		t.Errorf("a list that was told changed: %v", held)
	}
	_ = append(held[:1], Request{Id: 55})
	wantPending(t, d, b, Request{Id: 3})
}

// P12.3

func TestCompleteEachPlace(t *testing.T) {
	m := newMemory(t, 1)
	for k := range 8 {
		d, list := full(t)
		wantComplete(t, d, m, k, list[k], api.OK)
		wantPending(t, d, slices.Delete(slices.Clone(list), k, k+1)...)
		wantComplete(t, d, m, 7, Request{}, api.ErrNone)
	}
}

func TestCompleteNone(t *testing.T) {
	m := newMemory(t, 1)
	for count := range 9 {
		d := newDisk(t, 1)
		var list []Request
		for i := range count {
			list = append(list, Request{Id: i, Write: true})
			d.Submit(list[i])
		}
		d.Put(0, pattern(9))
		for _, k := range append(edgeInts, count, count+1) {
			if k < 0 || k >= count {
				wantComplete(t, d, m, k, Request{}, api.ErrNone)
			}
		}
		wantPending(t, d, list...)
		wantBlock(t, d, 0, pattern(9))
	}
}

func TestCompleteInAnyOrder(t *testing.T) {
	m := newMemory(t, 1)
	for seed := range 200 {
		s := scatter(seed)
		d, list := full(t)
		for len(list) > 0 {
			k := int(s.next() % uint64(len(list)))
			wantComplete(t, d, m, k, list[k], api.OK)
			list = slices.Delete(list, k, k+1)
			wantPending(t, d, list...)
		}
		wantComplete(t, d, m, 0, Request{}, api.ErrNone)
	}
}

func TestCompleteFrames(t *testing.T) {
	for _, frames := range []int{1, 2, 4} {
		for _, frame := range append(edgeInts, frames-1, frames, frames+1) {
			for _, write := range []bool{false, true} {
				d := newDisk(t, 2)
				m := newMemory(t, frames)
				for n := range frames {
					putFrame(t, m, n, pattern(20+n))
				}
				d.Put(1, pattern(10))
				r := Request{Id: 1, Write: write, Block: 1, Frame: frame}
				d.Submit(r)
				is := frame >= 0 && frame < frames
				want := api.OK
				if !is {
					want = api.ErrBound
				}
				wantComplete(t, d, m, 0, r, want)
				wantPending(t, d)
				wantBlock(t, d, 0, zeroes())
				if is && write {
					wantBlock(t, d, 1, pattern(20+frame))
				} else {
					wantBlock(t, d, 1, pattern(10))
				}
				for n := range frames {
					if is && !write && n == frame {
						wantFrame(t, m, n, pattern(10))
					} else {
						wantFrame(t, m, n, pattern(20+n))
					}
				}
			}
		}
	}
}

func TestCompleteLastFrame(t *testing.T) {
	m := newMemory(t, api.MaxFrames)
	d := newDisk(t, 65536)
	putFrame(t, m, api.MaxFrames-1, pattern(4))
	d.Submit(Request{Id: 1, Write: true, Block: 65535, Frame: api.MaxFrames - 1})
	r := Request{Id: 2, Write: true, Block: 65535, Frame: api.MaxFrames}
	d.Submit(r)
	wantComplete(t, d, m, 1, r, api.ErrBound)
	wantBlock(t, d, 65535, zeroes())
	wantComplete(t, d, m, 0, Request{Id: 1, Write: true, Block: 65535, Frame: api.MaxFrames - 1}, api.OK)
	wantBlock(t, d, 65535, pattern(4))
}

func TestCompleteNoMemory(t *testing.T) {
	var none *mem.Memory
	d, list := full(t)
	empty := newDisk(t, 1)
	d.Put(0, pattern(5))
	for _, m := range []*mem.Memory{none, {}} {
		for _, k := range edgeInts {
			wantComplete(t, d, m, k, Request{}, api.ErrNil)
			wantComplete(t, empty, m, k, Request{}, api.ErrNil)
		}
	}
	wantPending(t, d, list...)
	wantBlock(t, d, 0, pattern(5))
}

func TestCompleteTakesBytesAsTheyAre(t *testing.T) {
	d := newDisk(t, 1)
	m := newMemory(t, 1)
	putFrame(t, m, 0, pattern(1))
	d.Submit(Request{Id: 1, Write: true})
	putFrame(t, m, 0, pattern(2))
	wantBlock(t, d, 0, zeroes())
	wantErrno(t, "Complete", second(d.Complete(m, 0)), api.OK)
	wantBlock(t, d, 0, pattern(2))
	putFrame(t, m, 0, pattern(3))
	wantBlock(t, d, 0, pattern(2))

	d.Submit(Request{Id: 1})
	d.Put(0, pattern(4))
	wantFrame(t, m, 0, pattern(3))
	wantErrno(t, "Complete", second(d.Complete(m, 0)), api.OK)
	wantFrame(t, m, 0, pattern(4))
	d.Put(0, pattern(5))
	wantFrame(t, m, 0, pattern(4))
}

func second(_ Request, e api.Errno) api.Errno { return e }

func TestZeroesAgain(t *testing.T) {
	d := newDisk(t, 3)
	m := newMemory(t, 3)
	putFrame(t, m, 2, pattern(6))
	for range 3 {
		putFrame(t, m, 0, pattern(8))
		d.Submit(Request{Id: 1, Write: true, Block: 1, Frame: 0})
		d.Complete(m, 0)
		wantBlock(t, d, 1, pattern(8))
		m.Clear(0)
		d.Submit(Request{Id: 2, Write: true, Block: 1, Frame: 0})
		d.Complete(m, 0)
		wantBlock(t, d, 1, zeroes())
		putFrame(t, m, 1, pattern(9))
		d.Submit(Request{Id: 3, Block: 1, Frame: 1})
		d.Complete(m, 0)
		wantFrame(t, m, 1, zeroes())
		wantFrame(t, m, 2, pattern(6))
	}
}

// A page that is not all 0 in one byte alone, wherever it stands, is not taken for one that is.
func TestOneByte(t *testing.T) {
	d := newDisk(t, 1)
	for i := range api.Page {
		b := zeroes()
		b[i] = 128
		wantErrno(t, "Put", d.Put(0, b), api.OK)
		wantBlock(t, d, 0, b)
	}
	wantErrno(t, "Put", d.Put(0, zeroes()), api.OK)
	wantBlock(t, d, 0, zeroes())
}

// Blocks that are all 0 are not kept: rule 8 of the language asks for no more than the promises need.
func TestZeroesTakeNoRoom(t *testing.T) {
	d := newDisk(t, 65536)
	for n := range 65536 {
		d.Put(n, zeroes())
	}
	d.Put(5, pattern(1))
	d.Put(6, pattern(1))
	d.Put(5, zeroes())
	if len(d.written) != 1 {
		t.Errorf("%d blocks are kept, want 1", len(d.written))
	}
}

// P12.4

func TestPutEachBlock(t *testing.T) {
	d := newDisk(t, 200)
	for n := range 200 {
		wantErrno(t, "Put", d.Put(n, pattern(n)), api.OK)
	}
	for n := range 200 {
		wantBlock(t, d, n, pattern(n))
	}
	wantErrno(t, "Put again", d.Put(7, pattern(210)), api.OK)
	for n := range 200 {
		if n == 7 {
			wantBlock(t, d, n, pattern(210))
		} else {
			wantBlock(t, d, n, pattern(n))
		}
	}
}

func TestNoSuchBlock(t *testing.T) {
	for _, blocks := range []int{1, 4, 65536} {
		d := newDisk(t, blocks)
		d.Put(blocks-1, pattern(2))
		for _, n := range append(edgeInts, blocks, blocks+1) {
			if n >= 0 && n < blocks {
				continue
			}
			if b, e := d.Block(n); len(b) != 0 || e != api.ErrBound {
				t.Errorf("Block(%d) of %d = %v, %d", n, blocks, b, int(e))
			}
			wantErrno(t, "Put", d.Put(n, pattern(1)), api.ErrBound)
			wantErrno(t, "Put of zeroes", d.Put(n, zeroes()), api.ErrBound)
			wantErrno(t, "Put of nothing", d.Put(n, nil), api.ErrBound)
			wantErrno(t, "Put of too much", d.Put(n, make([]byte, 257)), api.ErrBound)
		}
		wantBlock(t, d, blocks-1, pattern(2))
	}
}

func TestPutLengths(t *testing.T) {
	d := newDisk(t, 2)
	d.Put(0, pattern(1))
	long := append(pattern(2), pattern(3)...)
	for _, b := range [][]byte{nil, {}, long[:0], long[:1], long[:8], long[:255], long[:257], long, make([]byte, 65536)} {
		wantErrno(t, "Put", d.Put(0, b), api.ErrArg)
		wantErrno(t, "Put", d.Put(1, b), api.ErrArg)
		wantBlock(t, d, 0, pattern(1))
		wantBlock(t, d, 1, zeroes())
	}
	wantErrno(t, "Put of a part", d.Put(1, long[:256]), api.OK)
	wantBlock(t, d, 1, pattern(2))
}

func TestBytesAreNotShared(t *testing.T) {
	d := newDisk(t, 2)
	long := append(pattern(2), pattern(3)...)
	handed := long[:256]
	d.Put(0, handed)
	if !bytes.Equal(long[:256], pattern(2)) || !bytes.Equal(long[256:], pattern(3)) {
		t.Error("Put changed what was handed in")
	}
	clear(long)
	wantBlock(t, d, 0, pattern(2))
	for n, want := range [][]byte{pattern(2), zeroes()} {
		told, _ := d.Block(n)
		whole := told[:cap(told)]
		for i := range whole {
			whole[i] = 99
		}
		wantBlock(t, d, n, want)
	}
	told, _ := d.Block(0)
	d.Put(0, pattern(4))
	if !bytes.Equal(told, pattern(2)) {
		t.Error("what was told changed")
	}
	other, _ := d.Block(1)
	other[0] = 1
	wantBlock(t, d, 1, zeroes())
	wantBlock(t, newDisk(t, 1), 0, zeroes())
}

// P12.5

func TestWrittenIsRead(t *testing.T) {
	d := newDisk(t, 4)
	m := newMemory(t, 4)
	for n := range 4 {
		putFrame(t, m, n, pattern(30+n))
		d.Put(n, pattern(40+n))
	}
	w := Request{Id: 1, Write: true, Block: 2, Frame: 1}
	r := Request{Id: 2, Block: 2, Frame: 3}
	d.Submit(w)
	d.Submit(r)
	wantComplete(t, d, m, 0, w, api.OK)
	wantComplete(t, d, m, 0, r, api.OK)
	for n := range 4 {
		if n == 2 {
			wantBlock(t, d, n, pattern(31))
		} else {
			wantBlock(t, d, n, pattern(40+n))
		}
		if n == 3 {
			wantFrame(t, m, n, pattern(31))
		} else {
			wantFrame(t, m, n, pattern(30+n))
		}
	}
	wantComplete(t, d, m, 0, Request{}, api.ErrNone)
}

// The order in which requests are done is the caller's: one that was asked first may be done last.
func TestDoneInTheCallersOrder(t *testing.T) {
	d := newDisk(t, 1)
	m := newMemory(t, 2)
	putFrame(t, m, 0, pattern(3))
	putFrame(t, m, 1, pattern(4))
	d.Submit(Request{Id: 1, Write: true, Frame: 0})
	d.Submit(Request{Id: 2, Frame: 1})
	wantComplete(t, d, m, 1, Request{Id: 2, Frame: 1}, api.OK)
	wantFrame(t, m, 1, zeroes())
	wantComplete(t, d, m, 0, Request{Id: 1, Write: true, Frame: 0}, api.OK)
	wantBlock(t, d, 0, pattern(3))
}

// Requests that ask for the same by other Ids are done one by one.
func TestSameAskedTwice(t *testing.T) {
	d := newDisk(t, 1)
	m := newMemory(t, 1)
	d.Submit(Request{Id: 1, Write: true})
	d.Submit(Request{Id: 2, Write: true})
	putFrame(t, m, 0, pattern(1))
	wantComplete(t, d, m, 0, Request{Id: 1, Write: true}, api.OK)
	wantPending(t, d, Request{Id: 2, Write: true})
	putFrame(t, m, 0, pattern(2))
	wantComplete(t, d, m, 0, Request{Id: 2, Write: true}, api.OK)
	wantBlock(t, d, 0, pattern(2))
}

// DOC.md, rule 1

func TestNoDisk(t *testing.T) {
	var none *Disk
	m := newMemory(t, 1)
	putFrame(t, m, 0, pattern(1))
	for _, d := range []*Disk{none, {}, new(Disk)} {
		if d.Blocks() != 0 || len(d.Pending()) != 0 {
			t.Errorf("Blocks = %d, Pending = %v", d.Blocks(), d.Pending())
		}
		for _, n := range edgeInts {
			wantErrno(t, "Submit", d.Submit(Request{Id: n, Block: n, Frame: n}), api.ErrNil)
			wantErrno(t, "Put", d.Put(n, pattern(1)), api.ErrNil)
			wantErrno(t, "Put of nothing", d.Put(n, nil), api.ErrNil)
			wantComplete(t, d, m, n, Request{}, api.ErrNil)
			wantComplete(t, d, nil, n, Request{}, api.ErrNil)
			if b, e := d.Block(n); len(b) != 0 || e != api.ErrNil {
				t.Errorf("Block(%d) = %v, %d", n, b, int(e))
			}
		}
		if d.Blocks() != 0 || len(d.Pending()) != 0 {
			t.Errorf("a disk that no call made has changed: %d, %v", d.Blocks(), d.Pending())
		}
	}
	wantFrame(t, m, 0, pattern(1))
}
