package stage

import (
	"bytes"
	"math"
	"slices"
	"testing"

	"palisade/api"
	"palisade/entry"
	"palisade/frames"
	"palisade/mem"
	"palisade/walk"
)

// edgeInts are numbers at both ends of int, and around the edges within.
var edgeInts = []int{math.MinInt, math.MinInt + 1, -1 << 32, math.MinInt32 - 1, math.MinInt32, -1025, -1024, -33, -32, -31, -2, -1, 0, 1, 2, 5, 15, 16, 17, 31, 32, 33, 63, 64, 255, 256, 991, 992, 1022, 1023, 1024, 1025, 1<<16 - 1, 1 << 16, 1<<16 + 1, math.MaxInt32, math.MaxInt32 + 1, 1 << 32, 1<<32 + 1, 1 << 62, math.MaxInt - 1, math.MaxInt}

// noPages are numbers of which there is no page.
var noPages = []int{math.MinInt, math.MinInt + 1, -1 << 32, math.MinInt32, -1024, -32, -2, -1, api.MaxPages, api.MaxPages + 1, 1 << 16, math.MaxInt32, 1 << 32, 1<<32 + 1, 1 << 62, math.MaxInt - 1, math.MaxInt}

// noGuests are numbers of which there is no guest.
var noGuests = []int{math.MinInt, math.MinInt + 1, -1 << 32, math.MinInt32, -2, -1, 0, api.MaxGuests + 1, api.MaxGuests + 2, 256, math.MaxInt32, 1 << 32, 1<<32 + 1, math.MaxInt - 1, math.MaxInt}

// noFrames tells numbers of which so many frames have none.
func noFrames(frames int) []int {
	return []int{math.MinInt, math.MinInt + 1, -1 << 32, math.MinInt32, -2, -1, frames, frames + 1, 1 << 16, 1<<32 + 1, math.MaxInt - 1, math.MaxInt}
}

var (
	reads     = Rights{Read: true}
	writes    = Rights{Read: true, Write: true}
	runs      = Rights{Exec: true}
	readsRuns = Rights{Read: true, Exec: true}
	all       = Rights{Read: true, Write: true, Exec: true}
)

// mayRights are the rights that may be, noRights all others.
var (
	mayRights = []Rights{reads, writes, runs, readsRuns, all}
	noRights  = []Rights{{}, {Write: true}, {Write: true, Exec: true}}
)

// allPages tells all pages' numbers, rising.
func allPages() []int {
	list := make([]int, api.MaxPages)
	for page := range list {
		list[page] = page
	}
	return list
}

// board is a memory and its frames, and the tables of a guest over them.
type board struct {
	m *mem.Memory
	f *frames.Frames
	*Tables
}

// made is a board of so many frames, the first of which is the hypervisor's for ever; the memory is all 255 before the guest 1's tables are made.
func made(t *testing.T, frameCount int) board {
	t.Helper()
	b := board{m: newMemory(t, frameCount), f: newFrames(t, frameCount)}
	b.Tables = newTables(t, b.m, b.f, 1)
	return b
}

func newMemory(t *testing.T, count int) *mem.Memory {
	t.Helper()
	m, e := mem.New(count)
	if e != api.OK {
		t.Fatalf("mem.New(%d) = %d", count, int(e))
	}
	m.Put(0, bytes.Repeat([]byte{255}, count*api.Page))
	return m
}

func newFrames(t *testing.T, count int) *frames.Frames {
	t.Helper()
	f, e := frames.New(count, 1)
	if e != api.OK {
		t.Fatalf("frames.New(%d, 1) = %d", count, int(e))
	}
	return f
}

func newTables(t *testing.T, m *mem.Memory, f *frames.Frames, guest int) *Tables {
	t.Helper()
	x, e := New(m, f, guest)
	if x == nil || e != api.OK {
		t.Fatalf("New(.., %d) = %v, %d", guest, x, int(e))
	}
	return x
}

// alloc tells a new frame of the guest's.
func alloc(t *testing.T, f *frames.Frames, guest int) int {
	t.Helper()
	frame, e := f.Alloc(guest)
	if e != api.OK {
		t.Fatalf("Alloc(%d) = %d", guest, int(e))
	}
	return frame
}

func wantErrno(t *testing.T, what string, e, want api.Errno) {
	t.Helper()
	if e != want {
		t.Errorf("%s = %d; want %d", what, int(e), int(want))
	}
}

func wantMap(t *testing.T, x *Tables, page, frame int, r Rights, want api.Errno) {
	t.Helper()
	if e := x.Map(page, frame, r); e != want {
		t.Errorf("Map(%d, %d, %v) = %d; want %d", page, frame, r, int(e), int(want))
	}
}

func wantUnmap(t *testing.T, x *Tables, page, frame int) {
	t.Helper()
	if n, e := x.Unmap(page); n != frame || e != api.OK {
		t.Errorf("Unmap(%d) = %d, %d; want %d, 0", page, n, int(e), frame)
	}
}

func wantNoUnmap(t *testing.T, x *Tables, page int, want api.Errno) {
	t.Helper()
	if n, e := x.Unmap(page); n != 0 || e != want {
		t.Errorf("Unmap(%d) = %d, %d; want 0, %d", page, n, int(e), int(want))
	}
}

func wantProtect(t *testing.T, x *Tables, page int, r Rights, want api.Errno) {
	t.Helper()
	if e := x.Protect(page, r); e != want {
		t.Errorf("Protect(%d, %v) = %d; want %d", page, r, int(e), int(want))
	}
}

func wantLook(t *testing.T, x *Tables, page, frame int, r Rights) {
	t.Helper()
	if n, got, ok := x.Look(page); n != frame || got != r || !ok {
		t.Errorf("Look(%d) = %d, %v, %v; want %d, %v, true", page, n, got, ok, frame, r)
	}
}

func wantNoLook(t *testing.T, x *Tables, page int) {
	t.Helper()
	if n, r, ok := x.Look(page); n != 0 || r != (Rights{}) || ok {
		t.Errorf("Look(%d) = %d, %v, %v; want 0, no rights, false", page, n, r, ok)
	}
}

func wantPages(t *testing.T, x *Tables, pages, tables int) {
	t.Helper()
	if p, n := x.Pages(); p != pages || n != tables {
		t.Errorf("Pages() = %d, %d; want %d, %d", p, n, pages, tables)
	}
}

// wantOwner looks whose a frame is, and how often; no times: nobody's.
func wantOwner(t *testing.T, f *frames.Frames, frame, owner, times int) {
	t.Helper()
	if o, n, ok := f.Owner(frame); o != owner || n != times || ok != (times > 0) {
		t.Errorf("Owner(%d) = %d, %d, %v; want %d, %d", frame, o, n, ok, owner, times)
	}
}

func wantNobodys(t *testing.T, f *frames.Frames, frame int) {
	t.Helper()
	wantOwner(t, f, frame, 0, 0)
}

// entryOf tells what the memory has at a place of a table.
func entryOf(t *testing.T, m *mem.Memory, table, place int) uint64 {
	t.Helper()
	v, e := m.Load(uint64(table*256+place*8), 8)
	if e != api.OK {
		t.Fatalf("the place %d of the table in the frame %d: %d", place, table, int(e))
	}
	return v
}

// numberOf tells the number that a page's entry must have, by the bits of chapter 5.
func numberOf(frame int, r Rights) uint64 {
	v := uint64(frame)*1024 + 1 + 16
	for bit, on := range []bool{r.Read, r.Write, r.Exec} {
		if on {
			v += 2 << bit
		}
	}
	return v
}

func wantEntry(t *testing.T, m *mem.Memory, table, place int, want uint64) {
	t.Helper()
	if v := entryOf(t, m, table, place); v != want {
		t.Errorf("the place %d of the table in the frame %d is %#x; want %#x", place, table, v, want)
	}
}

// wantTable looks at all places of a table: the others than those told are 0.
func wantTable(t *testing.T, m *mem.Memory, table int, want map[int]uint64) {
	t.Helper()
	for place := range 32 {
		wantEntry(t, m, table, place, want[place])
	}
}

// held is whose a frame is, and how often; no times: nobody's.
type held struct{ owner, times int }

// book is that of each frame.
type book []held

func bookOf(f *frames.Frames, count int) book {
	b := make(book, count)
	for frame := range b {
		b[frame].owner, b[frame].times, _ = f.Owner(frame)
	}
	return b
}

// seen is all that can be told of a board from outside, but the quotas.
type seen struct {
	memory *mem.Memory
	frames book
	root   int
	pages  [2]int
	looks  [api.MaxPages]struct {
		frame int
		r     Rights
		ok    bool
	}
}

func see(b board) seen {
	s := seen{memory: b.m.Clone(), frames: bookOf(b.f, b.m.Frames()+4), root: b.Root()}
	s.pages[0], s.pages[1] = b.Pages()
	for page := range s.looks {
		l := &s.looks[page]
		l.frame, l.r, l.ok = b.Look(page)
	}
	return s
}

// wantAsBefore looks whether nothing has changed that can be told.
func wantAsBefore(t *testing.T, what string, b board, before seen) {
	t.Helper()
	now := see(b)
	if !now.memory.Same(before.memory) {
		t.Errorf("%s changed the memory", what)
	}
	if !slices.Equal(now.frames, before.frames) {
		t.Errorf("%s changed the frames: %v; before: %v", what, now.frames, before.frames)
	}
	if now.root != before.root || now.pages != before.pages || now.looks != before.looks {
		t.Errorf("%s changed what is told", what)
	}
}

// The chapter's example.

func TestExample(t *testing.T) {
	b := made(t, 8)
	f := alloc(t, b.f, 1)
	wantMap(t, b.Tables, 5, f, reads, api.OK)
	wantLook(t, b.Tables, 5, f, reads)
	wantMap(t, b.Tables, 5, f, reads, api.ErrThere)
	wantPages(t, b.Tables, 1, 2)
	wantUnmap(t, b.Tables, 5, f)
	wantPages(t, b.Tables, 0, 1)
}

// P17.1

func TestNew(t *testing.T) {
	for guest := 1; guest <= api.MaxGuests; guest++ {
		m, f := newMemory(t, 8), newFrames(t, 8)
		alloc(t, f, 3)
		x := newTables(t, m, f, guest)
		if x.Root() != 2 {
			t.Errorf("Root() = %d; want 2, the least frame that is nobody's", x.Root())
		}
		wantOwner(t, f, 2, frames.Hypervisor, 1)
		wantTable(t, m, 2, nil)
		wantPages(t, x, 0, 1)
		for _, page := range []int{0, 31, 32, 1023} {
			wantNoLook(t, x, page)
		}
		frame := alloc(t, f, guest)
		wantMap(t, x, 0, frame, reads, api.OK)
	}
}

// The frames below and above the root's are not touched.
func TestNewClearsItsFrameAlone(t *testing.T) {
	b := made(t, 4)
	for frame := range 4 {
		got, _ := b.m.Bytes(uint64(frame*256), 256)
		if is := bytes.Equal(got, make([]byte, 256)); is != (frame == b.Root()) {
			t.Errorf("the frame %d is all 0: %v; the root is %d", frame, is, b.Root())
		}
		if frame != b.Root() && !bytes.Equal(got, bytes.Repeat([]byte{255}, 256)) {
			t.Errorf("the frame %d was changed", frame)
		}
	}
}

func wantNoNew(t *testing.T, m *mem.Memory, f *frames.Frames, guest int, want api.Errno) {
	t.Helper()
	if x, e := New(m, f, guest); x != nil || e != want {
		t.Errorf("New(.., %d) = %v, %d; want nil, %d", guest, x, int(e), int(want))
	}
}

func TestNewNil(t *testing.T) {
	m, f := newMemory(t, 4), newFrames(t, 4)
	for _, guest := range append([]int{1, 16}, noGuests...) {
		for _, noMemory := range []*mem.Memory{nil, {}} {
			wantNoNew(t, noMemory, f, guest, api.ErrNil)
			for _, none := range []*frames.Frames{nil, {}} {
				wantNoNew(t, noMemory, none, guest, api.ErrNil)
				wantNoNew(t, m, none, guest, api.ErrNil)
			}
		}
	}
	if _, free := f.Count(0); free != 3 || f.Sum() != 1 {
		t.Errorf("%d frames are nobody's; want 3", free)
	}
}

func TestNewNoGuest(t *testing.T) {
	m, f := newMemory(t, 4), newFrames(t, 4)
	before := m.Clone()
	for _, guest := range noGuests {
		wantNoNew(t, m, f, guest, api.ErrArg)
	}
	f.Quota(frames.Hypervisor, 0)
	wantNoNew(t, m, f, 0, api.ErrArg)
	wantNoNew(t, m, f, 17, api.ErrArg)
	if _, free := f.Count(0); free != 3 || !m.Same(before) {
		t.Error("a New with no guest changed something")
	}
}

// Both ends of int, and all between that are no edge of a guest's number.
func TestNewGuestsOverInt(t *testing.T) {
	for _, guest := range edgeInts {
		m, f := newMemory(t, 2), newFrames(t, 2)
		want := api.ErrArg
		if guest >= 1 && guest <= 16 {
			want = api.OK
		}
		x, e := New(m, f, guest)
		if e != want || (x != nil) != (want == api.OK) {
			t.Errorf("New(.., %d) = %v, %d; want %d", guest, x, int(e), int(want))
		}
	}
}

func TestNewNoRoot(t *testing.T) {
	m, f := newMemory(t, 4), newFrames(t, 4)
	f.Quota(frames.Hypervisor, 1)
	wantNoNew(t, m, f, 1, api.ErrQuota)
	f.Quota(frames.Hypervisor, 4)
	for range 3 {
		alloc(t, f, 2)
	}
	before := m.Clone()
	wantNoNew(t, m, f, 1, api.ErrMemory)
	f.Quota(frames.Hypervisor, 1)
	wantNoNew(t, m, f, 1, api.ErrQuota)
	if f.Sum() != 4 || !m.Same(before) {
		t.Error("a New without a root changed something")
	}
}

// A guest that may have no frame has tables all the same: their frames are the hypervisor's.
func TestNewOfAGuestWithoutFrames(t *testing.T) {
	m, f := newMemory(t, 4), newFrames(t, 4)
	f.Quota(1, 0)
	newTables(t, m, f, 1)
	if own, _ := f.Count(1); own != 0 {
		t.Errorf("the guest has %d frames", own)
	}
}

func TestNewBeyondTheMemory(t *testing.T) {
	m, f := newMemory(t, 3), newFrames(t, 5)
	before := m.Clone()
	alloc(t, f, 2)
	alloc(t, f, 2)
	for range 3 {
		wantNoNew(t, m, f, 1, api.ErrBound)
		wantNobodys(t, f, 3)
	}
	wantNoNew(t, m, f, 0, api.ErrArg)
	if f.Sum() != 3 || !m.Same(before) {
		t.Error("a New beyond the memory changed something")
	}
	f.Free(2, 2)
	if x := newTables(t, m, f, 1); x.Root() != 2 {
		t.Errorf("Root() = %d; want 2, the memory's last", x.Root())
	}
}

func TestRoot(t *testing.T) {
	var none *Tables
	if none.Root() != -1 || new(Tables).Root() != -1 {
		t.Errorf("Root() = %d, %d; want -1 of nil and of what no call made", none.Root(), new(Tables).Root())
	}
	m, _ := mem.New(3)
	f, _ := frames.New(3, 0)
	x := newTables(t, m, f, 1)
	if x.Root() != 0 {
		t.Errorf("Root() = %d; want 0", x.Root())
	}
	frame := alloc(t, f, 1)
	wantMap(t, x, 9, frame, reads, api.OK)
	if x.Root() != 0 {
		t.Errorf("Root() = %d behind Map; want 0", x.Root())
	}
	wantErrno(t, "Close", x.Close(), api.OK)
	if x.Root() != -1 {
		t.Errorf("Root() = %d behind Close; want -1", x.Root())
	}
}

// P17.2

func TestMapEachPage(t *testing.T) {
	b := made(t, 80)
	frame := alloc(t, b.f, 1)
	for _, page := range allPages() {
		r := mayRights[page%len(mayRights)]
		wantMap(t, b.Tables, page, frame, r, api.OK)
		wantLook(t, b.Tables, page, frame, r)
		wantPages(t, b.Tables, page+1, 2+page/32)
		wantOwner(t, b.f, frame, 1, page+2)
		table := entryOf(t, b.m, b.Root(), page/32)
		if table%1024 != 1 {
			t.Fatalf("the root's place %d is %#x", page/32, table)
		}
		wantOwner(t, b.f, int(table/1024), frames.Hypervisor, 1)
		wantEntry(t, b.m, int(table/1024), page%32, numberOf(frame, r))
	}
	if own, _ := b.f.Count(frames.Hypervisor); own != 1+33 {
		t.Errorf("the hypervisor has %d frames; want 34", own)
	}
	for _, page := range allPages() {
		wantLook(t, b.Tables, page, frame, mayRights[page%len(mayRights)])
		wantMap(t, b.Tables, page, frame, all, api.ErrThere)
	}
}

// What stood in a table's frame before it was taken maps nothing.
func TestMapClearsTheTable(t *testing.T) {
	m, f := newMemory(t, 6), newFrames(t, 6)
	for at := uint64(0); at < 6*256; at += 8 {
		m.Store(at, 8, numberOf(4, all))
	}
	x := newTables(t, m, f, 1)
	wantTable(t, m, 1, nil)
	frame := alloc(t, f, 1)
	wantMap(t, x, 70, frame, reads, api.OK)
	wantTable(t, m, 1, map[int]uint64{2: 3*1024 + 1})
	wantTable(t, m, 3, map[int]uint64{6: numberOf(frame, reads)})
	for _, page := range allPages() {
		if page != 70 {
			wantNoLook(t, x, page)
		}
	}
	for _, other := range []int{0, 2, 4, 5} { // neither the guest's frame nor any other is cleared
		if v := entryOf(t, m, other, 31); v != numberOf(4, all) {
			t.Errorf("the frame %d has %#x", other, v)
		}
	}
}

// A lower table is cleared when it is taken again, too.
func TestMapClearsTheTableAgain(t *testing.T) {
	b := made(t, 6)
	frame := alloc(t, b.f, 1)
	wantMap(t, b.Tables, 0, frame, reads, api.OK)
	wantUnmap(t, b.Tables, 0, frame)
	b.m.Put(3*256, bytes.Repeat([]byte{0x1f, 4, 0, 0, 0, 0, 0, 0}, 32))
	wantMap(t, b.Tables, 1, frame, reads, api.OK)
	wantTable(t, b.m, 3, map[int]uint64{1: numberOf(frame, reads)})
}

func TestMapRights(t *testing.T) {
	b := made(t, 8)
	frame := alloc(t, b.f, 1)
	for i, r := range mayRights {
		wantMap(t, b.Tables, i, frame, r, api.OK)
		wantLook(t, b.Tables, i, frame, r)
		wantEntry(t, b.m, 3, i, numberOf(frame, r))
	}
	before := see(b)
	for _, r := range noRights {
		wantMap(t, b.Tables, 9, frame, r, api.ErrArg)
		wantMap(t, b.Tables, 900, frame, r, api.ErrArg)
	}
	wantAsBefore(t, "Map with rights that may not be", b, before)
}

func TestMapNoPage(t *testing.T) {
	b := made(t, 8)
	frame := alloc(t, b.f, 1)
	before := see(b)
	for _, page := range noPages {
		wantMap(t, b.Tables, page, frame, reads, api.ErrArg)
	}
	wantAsBefore(t, "Map of no page", b, before)
}

func TestMapNoFrame(t *testing.T) {
	b := made(t, 8)
	before := see(b)
	for _, frame := range noFrames(8) {
		wantMap(t, b.Tables, 3, frame, reads, api.ErrArg)
	}
	wantAsBefore(t, "Map of no frame", b, before)
}

// The memory's frames and those of which is told whose they are may be more or less than one another.
func TestMapFramesOfOneAlone(t *testing.T) {
	m, f := newMemory(t, 4), newFrames(t, 8)
	x := newTables(t, m, f, 1)
	for range 4 {
		alloc(t, f, 1)
	}
	wantMap(t, x, 0, 4, reads, api.ErrArg) // the guest's, but beyond the memory
	wantMap(t, x, 0, 5, reads, api.ErrArg)
	wantOwner(t, f, 4, 1, 1)

	m, f = newMemory(t, 8), newFrames(t, 4)
	x = newTables(t, m, f, 1)
	wantMap(t, x, 0, 4, reads, api.ErrOwner) // in the memory, but nobody's ever
	wantMap(t, x, 0, 7, reads, api.ErrOwner)
	wantMap(t, x, 0, 8, reads, api.ErrArg)
}

// The first and the last frame of all are frames as well as others.
func TestMapFrameEdges(t *testing.T) {
	m, _ := mem.New(api.MaxFrames)
	f, _ := frames.New(api.MaxFrames, 0)
	first := alloc(t, f, 5)
	x := newTables(t, m, f, 5)
	wantMap(t, x, 1, first, all, api.OK)
	wantLook(t, x, 1, 0, all)
	for range api.MaxFrames - 3 {
		alloc(t, f, 5)
	}
	last := api.MaxFrames - 1
	wantMap(t, x, 2, last, runs, api.OK)
	wantLook(t, x, 2, last, runs)
	wantUnmap(t, x, 1, 0)
	wantUnmap(t, x, 2, last)
}

func TestMapThere(t *testing.T) {
	b := made(t, 8)
	mine, other := alloc(t, b.f, 1), alloc(t, b.f, 1)
	wantMap(t, b.Tables, 40, mine, reads, api.OK)
	before := see(b)
	wantMap(t, b.Tables, 40, mine, reads, api.ErrThere)
	wantMap(t, b.Tables, 40, other, all, api.ErrThere)
	wantAsBefore(t, "Map of a page that is mapped", b, before)
	wantMap(t, b.Tables, 41, mine, all, api.OK)
	wantMap(t, b.Tables, 8, other, all, api.OK)
	wantUnmap(t, b.Tables, 40, mine)
	wantMap(t, b.Tables, 40, other, runs, api.OK)
	wantLook(t, b.Tables, 40, other, runs)
}

func TestMapOwner(t *testing.T) {
	b := made(t, 8)
	others := alloc(t, b.f, 2)
	before := see(b)
	wantMap(t, b.Tables, 5, 0, reads, api.ErrOwner)        // the hypervisor's for ever
	wantMap(t, b.Tables, 5, b.Root(), reads, api.ErrOwner) // the hypervisor's
	wantMap(t, b.Tables, 5, others, reads, api.ErrOwner)   // another guest's
	wantMap(t, b.Tables, 5, 7, reads, api.ErrOwner)        // nobody's
	wantAsBefore(t, "Map of a frame that is not the guest's", b, before)
	b.f.Move(others, 2, 1)
	wantMap(t, b.Tables, 5, others, reads, api.OK)
}

// A frame that the guest has once, oftener, and so often that it may not have it once more.
func TestMapHold(t *testing.T) {
	b := made(t, 8)
	frame := alloc(t, b.f, 1)
	for range 6 {
		wantErrno(t, "Hold", b.f.Hold(frame, 1), api.OK)
	}
	wantMap(t, b.Tables, 0, frame, reads, api.OK)
	wantOwner(t, b.f, frame, 1, 8)
	wantUnmap(t, b.Tables, 0, frame)
	wantOwner(t, b.f, frame, 1, 7)
	for range 1<<16 - 7 {
		b.f.Hold(frame, 1)
	}
	wantOwner(t, b.f, frame, 1, 1<<16)
	before := see(b)
	wantMap(t, b.Tables, 0, frame, reads, api.ErrFull)
	wantAsBefore(t, "Map of a frame that is had 2^16 times", b, before)
	b.f.Free(frame, 1)
	wantMap(t, b.Tables, 0, frame, reads, api.OK)
	wantOwner(t, b.f, frame, 1, 1<<16)
	wantMap(t, b.Tables, 1, frame, reads, api.ErrFull)
	wantUnmap(t, b.Tables, 0, frame)
}

// Where there is no frame for a lower table, the frame is not held once more.
func TestMapNoTable(t *testing.T) {
	b := made(t, 5)
	frame := alloc(t, b.f, 1)
	b.f.Quota(frames.Hypervisor, 2)
	before := see(b)
	wantMap(t, b.Tables, 5, frame, reads, api.ErrQuota)
	wantAsBefore(t, "Map beyond the quota", b, before)
	b.f.Quota(frames.Hypervisor, 3)
	wantMap(t, b.Tables, 5, frame, reads, api.OK)
	wantMap(t, b.Tables, 32, frame, reads, api.ErrQuota)
	wantMap(t, b.Tables, 31, frame, reads, api.OK) // its lower table is there
	b.f.Quota(frames.Hypervisor, 5)
	alloc(t, b.f, 2)
	before = see(b)
	wantMap(t, b.Tables, 32, frame, reads, api.ErrMemory)
	b.f.Quota(frames.Hypervisor, 0)
	wantMap(t, b.Tables, 1023, frame, reads, api.ErrQuota)
	wantAsBefore(t, "Map without a frame for the table", b, before)
	wantMap(t, b.Tables, 0, frame, reads, api.OK)
	wantOwner(t, b.f, frame, 1, 4)
}

func TestMapTableBeyondTheMemory(t *testing.T) {
	m, f := newMemory(t, 3), newFrames(t, 8)
	b := board{m: m, f: f, Tables: newTables(t, m, f, 1)}
	frame := alloc(t, f, 1)
	before := see(b)
	for _, page := range []int{0, 31, 32, 1023} {
		wantMap(t, b.Tables, page, frame, reads, api.ErrBound)
		wantNobodys(t, f, 3)
		wantOwner(t, f, frame, 1, 1)
	}
	wantAsBefore(t, "Map with a table beyond the memory", b, before)
	wantPages(t, b.Tables, 0, 1)
}

// Where several errors apply, it is the one that the chapter names first.
func TestMapOrder(t *testing.T) {
	b := made(t, 6)
	mine, others := alloc(t, b.f, 1), alloc(t, b.f, 2)
	wantMap(t, b.Tables, 5, mine, reads, api.OK)
	b.f.Quota(frames.Hypervisor, 0)
	full := alloc(t, b.f, 1)
	for range 1<<16 - 1 {
		b.f.Hold(full, 1)
	}
	before := see(b)
	wantMap(t, b.Tables, -1, others, reads, api.ErrArg)
	wantMap(t, b.Tables, 5, others, Rights{}, api.ErrArg)
	wantMap(t, b.Tables, 5, 6, reads, api.ErrArg)
	wantMap(t, b.Tables, 5, -1, Rights{Write: true}, api.ErrArg)
	wantMap(t, b.Tables, 5, others, reads, api.ErrThere)
	wantMap(t, b.Tables, 5, full, reads, api.ErrThere)
	wantMap(t, b.Tables, 99, others, reads, api.ErrOwner)
	wantMap(t, b.Tables, 99, full, reads, api.ErrFull)
	wantMap(t, b.Tables, 99, mine, reads, api.ErrQuota)
	wantAsBefore(t, "Map with errors", b, before)
	wantErrno(t, "Close", b.Close(), api.OK)
	wantMap(t, b.Tables, -1, -1, Rights{}, api.ErrState)
	wantMap(t, b.Tables, 5, mine, reads, api.ErrState)
	var none *Tables
	for _, x := range []*Tables{none, {}} {
		wantMap(t, x, -1, -1, Rights{}, api.ErrNil)
		wantMap(t, x, 5, mine, reads, api.ErrNil)
	}
}

// One frame may be several pages, of one lower table and of others.
func TestMapOneFrameOften(t *testing.T) {
	b := made(t, 16)
	frame, other := alloc(t, b.f, 1), alloc(t, b.f, 1)
	pages := []int{0, 1, 31, 32, 500, 1023}
	for i, page := range pages {
		wantMap(t, b.Tables, page, frame, mayRights[i%5], api.OK)
		wantOwner(t, b.f, frame, 1, i+2)
	}
	wantMap(t, b.Tables, 2, other, reads, api.OK)
	wantPages(t, b.Tables, 7, 5)
	for i, page := range pages {
		wantLook(t, b.Tables, page, frame, mayRights[i%5])
	}
	b.f.Free(frame, 1) // the guest has it through its pages alone now
	for i, page := range pages {
		wantOwner(t, b.f, frame, 1, len(pages)-i)
		wantUnmap(t, b.Tables, page, frame)
	}
	wantNobodys(t, b.f, frame)
	wantOwner(t, b.f, other, 1, 2)
	wantPages(t, b.Tables, 1, 2)
}

// P17.3

func TestUnmap(t *testing.T) {
	b := made(t, 8)
	one, two := alloc(t, b.f, 1), alloc(t, b.f, 1)
	wantMap(t, b.Tables, 64, one, reads, api.OK)
	wantMap(t, b.Tables, 95, two, all, api.OK)
	table := int(entryOf(t, b.m, b.Root(), 2) / 1024)

	wantUnmap(t, b.Tables, 64, one) // not the last page of its table
	wantNoLook(t, b.Tables, 64)
	wantLook(t, b.Tables, 95, two, all)
	wantTable(t, b.m, table, map[int]uint64{31: numberOf(two, all)})
	wantTable(t, b.m, b.Root(), map[int]uint64{2: uint64(table)*1024 + 1})
	wantOwner(t, b.f, one, 1, 1)
	wantOwner(t, b.f, table, frames.Hypervisor, 1)
	wantPages(t, b.Tables, 1, 2)

	wantUnmap(t, b.Tables, 95, two) // the last page of its table
	wantNoLook(t, b.Tables, 95)
	wantTable(t, b.m, table, nil)
	wantTable(t, b.m, b.Root(), nil)
	wantOwner(t, b.f, two, 1, 1)
	wantNobodys(t, b.f, table)
	wantPages(t, b.Tables, 0, 1)
}

// The last page of one lower table leaves the others as they are.
func TestUnmapOneTableOfMany(t *testing.T) {
	b := made(t, 40)
	frame := alloc(t, b.f, 1)
	for place := range 32 {
		wantMap(t, b.Tables, place*32+place, frame, reads, api.OK)
	}
	for place := range 32 {
		table := int(entryOf(t, b.m, b.Root(), place) / 1024)
		wantUnmap(t, b.Tables, place*32+place, frame)
		wantNobodys(t, b.f, table)
		wantEntry(t, b.m, table, place, 0)
		wantPages(t, b.Tables, 31-place, 32-place)
		for other := range 32 {
			if v := entryOf(t, b.m, b.Root(), other); (v != 0) != (other > place) {
				t.Errorf("the root's place %d is %#x behind Unmap at the place %d", other, v, place)
			}
		}
	}
}

// The frame's bytes are its owner's: they stay.
func TestUnmapKeepsTheBytes(t *testing.T) {
	b := made(t, 8)
	frame := alloc(t, b.f, 1)
	b.m.Put(uint64(frame*256), []byte("palisade"))
	before, _ := b.m.Bytes(uint64(frame*256), 256)
	wantMap(t, b.Tables, 3, frame, all, api.OK)
	wantProtect(t, b.Tables, 3, reads, api.OK)
	wantUnmap(t, b.Tables, 3, frame)
	if now, _ := b.m.Bytes(uint64(frame*256), 256); !bytes.Equal(now, before) {
		t.Error("a page's bytes were changed")
	}
}

// A frame that only a page has is nobody's when the page goes.
func TestUnmapTheLastTime(t *testing.T) {
	b := made(t, 8)
	frame := alloc(t, b.f, 1)
	wantMap(t, b.Tables, 3, frame, all, api.OK)
	b.f.Free(frame, 1)
	wantOwner(t, b.f, frame, 1, 1)
	wantUnmap(t, b.Tables, 3, frame)
	wantNobodys(t, b.f, frame)
}

// A frame that went to somebody else behind the tables' back is not freed in that one's place.
func TestUnmapOfAFrameThatWent(t *testing.T) {
	b := made(t, 8)
	frame := alloc(t, b.f, 1)
	wantMap(t, b.Tables, 3, frame, all, api.OK)
	b.f.Free(frame, 1)
	b.f.Move(frame, 1, 2)
	wantUnmap(t, b.Tables, 3, frame)
	wantOwner(t, b.f, frame, 2, 1)
	wantPages(t, b.Tables, 0, 1)
}

func TestUnmapErrors(t *testing.T) {
	b := made(t, 8)
	frame := alloc(t, b.f, 1)
	wantMap(t, b.Tables, 5, frame, reads, api.OK)
	wantMap(t, b.Tables, 6, frame, reads, api.OK)
	wantUnmap(t, b.Tables, 6, frame)
	wantMap(t, b.Tables, 99, frame, reads, api.OK)
	wantUnmap(t, b.Tables, 99, frame)
	before := see(b)
	for _, page := range noPages {
		wantNoUnmap(t, b.Tables, page, api.ErrArg)
	}
	for _, page := range []int{0, 4, 6, 31, 32, 37, 99, 1023} { // never mapped, or not any more
		wantNoUnmap(t, b.Tables, page, api.ErrNone)
	}
	wantAsBefore(t, "Unmap with errors", b, before)
	wantErrno(t, "Close", b.Close(), api.OK)
	var none *Tables
	for _, page := range edgeInts {
		wantNoUnmap(t, b.Tables, page, api.ErrState)
		wantNoUnmap(t, none, page, api.ErrNil)
		wantNoUnmap(t, &Tables{}, page, api.ErrNil)
	}
}

func TestProtect(t *testing.T) {
	b := made(t, 8)
	frame, other := alloc(t, b.f, 1), alloc(t, b.f, 1)
	wantMap(t, b.Tables, 33, frame, reads, api.OK)
	wantMap(t, b.Tables, 34, other, writes, api.OK)
	table := int(entryOf(t, b.m, b.Root(), 1) / 1024)
	for _, from := range mayRights {
		for _, to := range mayRights {
			wantProtect(t, b.Tables, 33, from, api.OK)
			wantProtect(t, b.Tables, 33, to, api.OK)
			wantLook(t, b.Tables, 33, frame, to)
			wantTable(t, b.m, table, map[int]uint64{1: numberOf(frame, to), 2: numberOf(other, writes)})
			wantOwner(t, b.f, frame, 1, 2)
			wantPages(t, b.Tables, 2, 2)
		}
		before := see(b)
		for _, r := range noRights {
			wantProtect(t, b.Tables, 33, r, api.ErrArg)
		}
		wantAsBefore(t, "Protect with rights that may not be", b, before)
	}
	wantLook(t, b.Tables, 34, other, writes)
}

func TestProtectErrors(t *testing.T) {
	b := made(t, 8)
	frame := alloc(t, b.f, 1)
	wantMap(t, b.Tables, 5, frame, reads, api.OK)
	wantMap(t, b.Tables, 6, frame, reads, api.OK)
	wantUnmap(t, b.Tables, 6, frame)
	before := see(b)
	for _, page := range noPages {
		wantProtect(t, b.Tables, page, reads, api.ErrArg)
		wantProtect(t, b.Tables, page, Rights{}, api.ErrArg)
	}
	for _, page := range []int{0, 4, 6, 31, 32, 37, 1023} {
		wantProtect(t, b.Tables, page, reads, api.ErrNone)
		for _, r := range noRights {
			wantProtect(t, b.Tables, page, r, api.ErrArg)
		}
	}
	wantAsBefore(t, "Protect with errors", b, before)
	wantErrno(t, "Close", b.Close(), api.OK)
	var none *Tables
	for _, page := range edgeInts {
		for _, r := range append(slices.Clone(noRights), mayRights...) {
			wantProtect(t, b.Tables, page, r, api.ErrState)
			wantProtect(t, none, page, r, api.ErrNil)
			wantProtect(t, &Tables{}, page, r, api.ErrNil)
		}
	}
}

func TestLook(t *testing.T) {
	b := made(t, 8)
	frame := alloc(t, b.f, 1)
	wantMap(t, b.Tables, 5, frame, readsRuns, api.OK)
	before := see(b)
	for _, page := range noPages {
		wantNoLook(t, b.Tables, page)
	}
	for _, page := range []int{0, 4, 6, 31, 32, 37, 1023} {
		wantNoLook(t, b.Tables, page)
	}
	wantLook(t, b.Tables, 5, frame, readsRuns)
	wantLook(t, b.Tables, 5, frame, readsRuns)
	wantAsBefore(t, "Look", b, before)
	wantErrno(t, "Close", b.Close(), api.OK)
	var none *Tables
	for _, page := range edgeInts {
		wantNoLook(t, b.Tables, page)
		wantNoLook(t, none, page)
		wantNoLook(t, &Tables{}, page)
	}
}

// P17.4

func TestPages(t *testing.T) {
	b := made(t, 12)
	frame := alloc(t, b.f, 1)
	steps := []struct {
		page          int // mapped; below 0: the page -page-1 is unmapped
		pages, tables int
	}{{0, 1, 2}, {1, 2, 2}, {32, 3, 3}, {1023, 4, 4}, {-1, 3, 4}, {-2, 2, 3}, {31, 3, 4}, {-33, 2, 3}, {-1024, 1, 2}, {-32, 0, 1}, {700, 1, 2}}
	wantPages(t, b.Tables, 0, 1)
	for _, s := range steps {
		if s.page >= 0 {
			wantMap(t, b.Tables, s.page, frame, all, api.OK)
		} else {
			wantUnmap(t, b.Tables, -s.page-1, frame)
		}
		wantPages(t, b.Tables, s.pages, s.tables)
	}
	wantProtect(t, b.Tables, 700, reads, api.OK)
	wantMap(t, b.Tables, 700, frame, all, api.ErrThere)
	wantPages(t, b.Tables, 1, 2)
	wantErrno(t, "Close", b.Close(), api.OK)
	wantPages(t, b.Tables, 0, 0)
	var none *Tables
	wantPages(t, none, 0, 0)
	wantPages(t, &Tables{}, 0, 0)
}

func TestCloseWithoutPages(t *testing.T) {
	m, f := newMemory(t, 4), newFrames(t, 4)
	before := bookOf(f, 4)
	x := newTables(t, m, f, 7)
	root := x.Root()
	wantErrno(t, "Close", x.Close(), api.OK)
	wantNobodys(t, f, root)
	if !slices.Equal(bookOf(f, 4), before) {
		t.Error("the frames are not as before New")
	}
}

func TestCloseWithPages(t *testing.T) {
	b := made(t, 60)
	mine, passed := alloc(t, b.f, 1), alloc(t, b.f, 1)
	before := bookOf(b.f, 60)
	for page := 0; page < api.MaxPages; page += 7 {
		wantMap(t, b.Tables, page, mine, all, api.OK)
	}
	wantMap(t, b.Tables, 1, passed, reads, api.OK)
	wantMap(t, b.Tables, 1021, passed, reads, api.OK)
	root := b.Root()
	b.f.Free(passed, 1) // the pages alone have it
	wantErrno(t, "Close", b.Close(), api.OK)
	before[root].owner, before[root].times = 0, 0
	before[passed].owner, before[passed].times = 0, 0
	if now := bookOf(b.f, 60); !slices.Equal(now, before) {
		t.Errorf("the frames are %v; want %v", now, before)
	}
	wantTable(t, b.m, root, nil)
}

func TestClosedCalls(t *testing.T) {
	b := made(t, 8)
	frame := alloc(t, b.f, 1)
	wantMap(t, b.Tables, 5, frame, all, api.OK)
	wantErrno(t, "Close", b.Close(), api.OK)
	before := see(b)
	for _, page := range append([]int{5, 0, 1023}, noPages...) {
		wantMap(t, b.Tables, page, frame, all, api.ErrState)
		wantNoUnmap(t, b.Tables, page, api.ErrState)
		wantProtect(t, b.Tables, page, all, api.ErrState)
		wantNoLook(t, b.Tables, page)
	}
	wantErrno(t, "Close", b.Close(), api.ErrState)
	wantErrno(t, "Close", b.Close(), api.ErrState)
	wantPages(t, b.Tables, 0, 0)
	if b.Root() != -1 {
		t.Errorf("Root() = %d; want -1", b.Root())
	}
	wantAsBefore(t, "a call behind Close", b, before)
	x := newTables(t, b.m, b.f, 1) // others may be made, for the same guest too
	wantMap(t, x, 5, frame, all, api.OK)
	wantErrno(t, "Close", b.Close(), api.ErrState)
	wantLook(t, x, 5, frame, all)
}

func TestCloseNil(t *testing.T) {
	var none *Tables
	wantErrno(t, "nil.Close", none.Close(), api.ErrNil)
	x := &Tables{}
	wantErrno(t, "Tables{}.Close", x.Close(), api.ErrNil)
	wantErrno(t, "Tables{}.Close", x.Close(), api.ErrNil)
	if x.Root() != -1 {
		t.Errorf("Root() = %d; want -1", x.Root())
	}
}

// P17.5

// wantWalk looks whether a walk with each access, from User and not, finds just what Look tells.
func wantWalk(t *testing.T, m *mem.Memory, x *Tables) {
	t.Helper()
	for _, page := range allPages() {
		frame, r, _ := x.Look(page)
		at := uint64(page*256 + page%256)
		for access, may := range map[int]bool{entry.Fetch: r.Exec, entry.Load: r.Read, entry.Store: r.Write} {
			want := walk.Found{}
			if may {
				want = walk.Found{Frame: frame, Read: r.Read, Write: r.Write, Exec: r.Exec, User: true, Levels: 2}
			}
			if found, ok := walk.One(m, x.Root(), at, access, true); found != want || ok != may {
				t.Errorf("One(%d, %d) of the page %d = %v, %v; want %v, %v", at, access, page, found, ok, want, may)
			}
			if found, ok := walk.One(m, x.Root(), at, access, false); ok {
				t.Errorf("One(%d, %d), not from User, found %v", at, access, found)
			}
		}
	}
	for _, at := range []uint64{1 << 18, 1<<18 + 256, 1 << 32, 1 << 63, math.MaxUint64} {
		if found, ok := walk.One(m, x.Root(), at, entry.Load, true); ok {
			t.Errorf("One(%d) found %v", at, found)
		}
	}
}

func TestWalk(t *testing.T) {
	b := made(t, 60)
	wantWalk(t, b.m, b.Tables)
	var own []int
	for range 12 {
		own = append(own, alloc(t, b.f, 1))
	}
	for i := range 90 {
		page := i * i * 7 % 1024
		if _, _, there := b.Look(page); !there {
			wantMap(t, b.Tables, page, own[i%len(own)], mayRights[i%5], api.OK)
		}
	}
	wantWalk(t, b.m, b.Tables)
	for page := 0; page < 1024; page += 3 {
		b.Unmap(page)
		b.Protect(page+1, mayRights[page%5])
	}
	wantWalk(t, b.m, b.Tables)
	root := b.Root()
	wantErrno(t, "Close", b.Close(), api.OK)
	for _, page := range allPages() {
		if found, ok := walk.One(b.m, root, uint64(page*256), entry.Load, true); ok {
			t.Errorf("the page %d is found behind Close: %v", page, found)
		}
	}
}

// Two guests' tables in one memory: each has its own pages alone.
func TestTwoGuests(t *testing.T) {
	m, f := newMemory(t, 40), newFrames(t, 40)
	before := bookOf(f, 40)
	one, two := newTables(t, m, f, 1), newTables(t, m, f, 2)
	if one.Root() == two.Root() {
		t.Fatalf("both roots are %d", one.Root())
	}
	mine, others := alloc(t, f, 1), alloc(t, f, 2)
	for i, page := range []int{0, 31, 32, 600, 1023} {
		wantMap(t, one, page, mine, mayRights[i], api.OK)
		wantNoLook(t, two, page)
		wantMap(t, two, page, mine, mayRights[i], api.ErrOwner)
		wantMap(t, two, (page+5*i)%1024, others, mayRights[4-i], api.OK)
		wantLook(t, one, page, mine, mayRights[i])
		wantWalk(t, m, one)
		wantWalk(t, m, two)
	}
	wantUnmap(t, two, 0, others)
	wantLook(t, one, 0, mine, mayRights[0])
	wantErrno(t, "Close", one.Close(), api.OK)
	wantWalk(t, m, two)
	wantPages(t, two, 4, 4)
	wantErrno(t, "Close", two.Close(), api.OK)
	f.Free(mine, 1)
	f.Free(others, 2)
	if now := bookOf(f, 40); !slices.Equal(now, before) {
		t.Errorf("the frames are %v; want %v", now, before)
	}
}

// Two tables of one guest's may have one frame of its, each of them once.
func TestTwoTablesOfOneGuest(t *testing.T) {
	m, f := newMemory(t, 12), newFrames(t, 12)
	one, two := newTables(t, m, f, 3), newTables(t, m, f, 3)
	frame := alloc(t, f, 3)
	wantMap(t, one, 5, frame, reads, api.OK)
	wantMap(t, two, 5, frame, all, api.OK)
	wantOwner(t, f, frame, 3, 3)
	wantErrno(t, "Close", one.Close(), api.OK)
	wantOwner(t, f, frame, 3, 2)
	wantLook(t, two, 5, frame, all)
	wantWalk(t, m, two)
}

// DOC.md's rules 1 and 6: no call panics, whatever it is given, and what it refuses changes nothing.

func TestWholeRange(t *testing.T) {
	b := made(t, 8)
	frame := alloc(t, b.f, 1)
	wantMap(t, b.Tables, 5, frame, all, api.OK)
	before := see(b)
	for _, page := range edgeInts {
		isPage := page >= 0 && page < 1024
		for _, n := range edgeInts {
			for _, r := range append(slices.Clone(noRights), mayRights...) {
				want := api.ErrArg
				switch {
				case !isPage || slices.Contains(noRights, r) || n < 0 || n >= 8:
				case page == 5:
					want = api.ErrThere
				case n != frame:
					want = api.ErrOwner
				default:
					continue
				}
				wantMap(t, b.Tables, page, n, r, want)
			}
		}
		switch {
		case !isPage:
			wantNoUnmap(t, b.Tables, page, api.ErrArg)
			wantProtect(t, b.Tables, page, all, api.ErrArg)
			wantNoLook(t, b.Tables, page)
		case page != 5:
			wantNoUnmap(t, b.Tables, page, api.ErrNone)
			wantProtect(t, b.Tables, page, all, api.ErrNone)
			wantNoLook(t, b.Tables, page)
		}
	}
	wantAsBefore(t, "what is refused", b, before)
}

// What stands in a lower table, and is not as Map writes it, is no page.
func TestEntryThatMapDoesNotWrite(t *testing.T) {
	b := made(t, 8)
	frame := alloc(t, b.f, 1)
	wantMap(t, b.Tables, 5, frame, reads, api.OK)
	table := uint64(entryOf(t, b.m, b.Root(), 0) / 1024)
	for _, v := range []uint64{2, 1, 1 + 2, 1 + 4 + 16, 1 << 63, 1<<63 + 1 + 2 + 16, math.MaxUint64} { // not valid, of a table, not User's, or of no entry
		b.m.Store(table*256+6*8, 8, uint64(frame)*1024|v)
		wantNoLook(t, b.Tables, 6)
		wantNoUnmap(t, b.Tables, 6, api.ErrNone)
		wantProtect(t, b.Tables, 6, reads, api.ErrNone)
	}
	wantMap(t, b.Tables, 6, frame, all, api.OK)
	wantLook(t, b.Tables, 6, frame, all)
}

// Whatever is written over the tables, calls end, and no page is told but as Map writes one.
func TestSpoiledMemory(t *testing.T) {
	for seed := range 30 {
		s := scatter(seed)
		b := made(t, 10)
		frame := alloc(t, b.f, 1)
		for range 300 {
			page := s.from(0, 40)
			switch s.from(0, 5) {
			case 0, 1:
				b.Map(page, frame, mayRights[s.from(0, 4)])
			case 2:
				b.Unmap(page)
			case 3:
				b.Protect(page, mayRights[s.from(0, 4)])
			case 4:
				b.m.Store(uint64(s.from(0, 10*32-1)*8), 8, s.next()%(20<<10))
			case 5:
				if n, r, ok := b.Look(page); ok && (n < 0 || n >= api.MaxFrames || !slices.Contains(mayRights, r)) {
					t.Fatalf("Look(%d) = %d, %v, %v", page, n, r, ok)
				}
			}
			if pages, tables := b.Pages(); pages < 0 || tables < 1 || tables > 1+pages {
				t.Fatalf("Pages() = %d, %d", pages, tables)
			}
		}
		wantErrno(t, "Close", b.Close(), api.OK)
	}
}
