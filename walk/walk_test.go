package walk

import (
	"math"
	"slices"
	"testing"

	"palisade/api"
	"palisade/entry"
	"palisade/mem"
)

// How the tests lay their memory: the second stage's tables lie in the frames 1 to 3, and the guest's page p in the frame 16 + p.
// Of the guest, the first stage's tables lie in the pages 4 to 6.
const (
	frames      = 48
	pages       = 16
	secondRoot  = 1
	secondLower = 2 // of the upper place 0
	secondLast  = 3 // of the upper place 31
	firstRoot   = 4
	firstLower  = 5 // of the upper place 0
	firstLast   = 6 // of the upper place 31
	base        = 16
)

const lastAddress = 1<<18 - 1

// noAccess are numbers that are no access.
var noAccess = []int{math.MinInt, math.MinInt32, -2, -1, 3, 4, 7, 255, 1 << 32, math.MaxInt - 1, math.MaxInt}

// rwx is a page of User's that allows everything; kernels and without take something from it.
func rwx(frame int) entry.Entry {
	return entry.Entry{Valid: true, Read: true, Write: true, Exec: true, User: true, Frame: frame}
}

func kernels(x entry.Entry) entry.Entry {
	x.User = false
	return x
}

func without(x entry.Entry, access int) entry.Entry {
	switch access {
	case entry.Fetch:
		x.Exec = false
	case entry.Load:
		x.Read, x.Write = false, false // Write is only there with Read
	case entry.Store:
		x.Write = false
	}
	return x
}

func table(frame int) entry.Entry {
	return entry.Entry{Valid: true, Frame: frame}
}

func newMemory(t *testing.T) *mem.Memory {
	t.Helper()
	m, e := mem.New(frames)
	if e != api.OK {
		t.Fatal(e)
	}
	return m
}

// put lays an entry into a frame of the memory.
func put(t *testing.T, m *mem.Memory, frame, place int, x entry.Entry) {
	t.Helper()
	v, e := entry.Pack(x)
	if e != api.OK {
		t.Fatal(e, x)
	}
	putNumber(t, m, frame, place, v)
}

func putNumber(t *testing.T, m *mem.Memory, frame, place int, v uint64) {
	t.Helper()
	if e := m.Store(uint64(frame*256+8*place), 8, v); e != api.OK {
		t.Fatal(e)
	}
}

// laid makes a memory with a second stage alone, of all pages, and the last one of all addresses (the frame 40).
func laid(t *testing.T) *mem.Memory {
	t.Helper()
	m := newMemory(t)
	put(t, m, secondRoot, 0, table(secondLower))
	for p := range pages {
		put(t, m, secondLower, p, rwx(base+p))
	}
	put(t, m, secondRoot, 31, table(secondLast))
	put(t, m, secondLast, 31, rwx(40))
	return m
}

// laidTwice makes one with a first stage too: the address's page 0 is the guest's page 9, the Kernel's own page 1 its page 10,
// and the last page of all addresses its page 11.
func laidTwice(t *testing.T) *mem.Memory {
	t.Helper()
	m := laid(t)
	put(t, m, base+firstRoot, 0, table(firstLower))
	put(t, m, base+firstLower, 0, rwx(9))
	put(t, m, base+firstLower, 1, kernels(rwx(10)))
	put(t, m, base+firstRoot, 31, table(firstLast))
	put(t, m, base+firstLast, 31, rwx(11))
	return m
}

// all is a reader that has a number for every address: what it is given, else 0.
type all map[uint64]uint64

func (a all) Load(at uint64, width int) (uint64, api.Errno) {
	if width != 8 {
		return 0, api.ErrArg
	}
	return a[at], api.OK
}

func (a all) put(t *testing.T, at uint64, x entry.Entry) {
	t.Helper()
	v, e := entry.Pack(x)
	if e != api.OK {
		t.Fatal(e, x)
	}
	a[at] = v
}

// failing is a reader that answers an error, with a number beside it, at one address, and else what it has.
type failing struct {
	Reader
	at uint64
	e  api.Errno
}

func (f failing) Load(at uint64, width int) (uint64, api.Errno) {
	v, e := f.Reader.Load(at, width)
	if at == f.at {
		return v, f.e
	}
	return v, e
}

// panicking is a reader that panics at one address, and else reads what it has; of nil it panics always.
type panicking struct {
	Reader
	at uint64
}

func (p *panicking) Load(at uint64, width int) (uint64, api.Errno) {
	if at == p.at {
		panic("no memory")
	}
	return p.Reader.Load(at, width)
}

// wantOne asks for a page, or (of the zero one) a refusal.
func wantOne(t *testing.T, name string, m Reader, root int, at uint64, access int, user bool, want Found) {
	t.Helper()
	got, ok := One(m, root, at, access, user)
	if got != want || ok != (want != Found{}) {
		t.Errorf("%s: One(%d, %d, %d, %v) = %v, %v, not %v", name, root, at, access, user, got, ok, want)
	}
}

// wantTwo asks for a page beside the zero trap.
func wantTwo(t *testing.T, name string, m Reader, first int, at uint64, access int, user bool, want Found) {
	t.Helper()
	got, trap := Two(m, first, secondRoot, at, access, user)
	if got != want || trap != (api.Trap{}) {
		t.Errorf("%s: Two(%d, %d, %d, %v) = %v, %v, not %v", name, first, at, access, user, got, trap, want)
	}
}

// wantTrap asks for a trap beside the zero page.
func wantTrap(t *testing.T, name string, m Reader, first, second int, at uint64, access int, user bool, want api.Trap) {
	t.Helper()
	got, trap := Two(m, first, second, at, access, user)
	if got != (Found{}) || trap != want {
		t.Errorf("%s: Two(%d, %d, %d, %d, %v) = %v, %v, not %v", name, first, second, at, access, user, got, trap, want)
	}
}

// firstFault and secondFault tell the faults of the accesses Fetch, Load and Store.
func firstFault(access int) int  { return [3]int{12, 13, 15}[access] }
func secondFault(access int) int { return [3]int{20, 21, 23}[access] }

func TestExamples(t *testing.T) {
	m := newMemory(t)
	for at := uint64(0); at <= lastAddress; at += 1021 {
		for access := range 3 {
			wantOne(t, "empty", m, secondRoot, at, access, true, Found{})
		}
		wantTrap(t, "empty", m, -1, secondRoot, at, entry.Load, true, api.Trap{Cause: api.GuestLoad, Value: at, Guest: at})
	}
}

func TestOneReaders(t *testing.T) {
	m := laid(t)
	page := Found{Frame: base, Read: true, Write: true, Exec: true, User: true, Levels: 2}
	wantOne(t, "memory", m, secondRoot, 0, entry.Load, true, page)
	var none *mem.Memory
	var gone *panicking
	for _, c := range []struct {
		name string
		m    Reader
		want Found
	}{
		{"no reader", nil, Found{}},
		{"nil memory", none, Found{}},
		{"memory that no call made", &mem.Memory{}, Found{}},
		{"nil reader of a type that panics", gone, Found{}},
		{"reader that panics at the upper entry", &panicking{m, 256}, Found{}},
		{"reader that panics at the lower entry", &panicking{m, 512}, Found{}},
		{"reader that panics elsewhere", &panicking{m, 520}, page},
		{"error at the upper entry", failing{m, 256, api.ErrBound}, Found{}},
		{"error at the lower entry", failing{m, 512, api.ErrBound}, Found{}},
		{"error of no name", failing{m, 512, -1}, Found{}},
		{"error elsewhere", failing{m, 520, api.ErrBound}, page},
	} {
		wantOne(t, c.name, c.m, secondRoot, 0, entry.Load, true, c.want)
	}
}

func TestOneRoots(t *testing.T) {
	m := laid(t)
	for _, root := range []int{
		math.MinInt, math.MinInt + 1, math.MinInt + 257, -1 << 56, -1<<56 + 1, -65536, -2, -1,
		0, 4, frames - 1, frames, frames + 1, 65535, 65536, 65537, 1 << 32, 1<<55 + 1,
		1<<56 - 1, 1 << 56, 1<<56 + 1, 1<<57 + 1, 1<<62 + 1, math.MaxInt - 254, math.MaxInt - 1, math.MaxInt,
	} {
		wantOne(t, "not the root", m, root, 0, entry.Load, true, Found{})
		wantTrap(t, "not the root", m, -1, root, 5, entry.Load, true, api.Trap{Cause: api.GuestLoad, Value: 5, Guest: 5})
	}
}

func TestOneAtTheEndOfAllAddresses(t *testing.T) {
	a := all{}
	a.put(t, math.MaxUint64-7, table(1))
	a.put(t, 256, rwx(7))
	last := uint64(31 << 13)
	page := Found{Frame: 7, Read: true, Write: true, Exec: true, User: true, Levels: 2}
	wantOne(t, "last table", a, 1<<56-1, last, entry.Load, true, page)
	// Modulo 2^64 this root's table would be that of the frame 0.
	a.put(t, 31*8, table(1))
	wantOne(t, "first table", a, 0, last, entry.Load, true, page)
	wantOne(t, "beyond the last table", a, 1<<56, last, entry.Load, true, Found{})
	wantOne(t, "far beyond", a, 1<<62, last, entry.Load, true, Found{})
}

func TestOneAddresses(t *testing.T) {
	m := laid(t)
	page := Found{Frame: base, Read: true, Write: true, Exec: true, User: true, Levels: 2}
	last := page
	last.Frame = 40
	for _, c := range []struct {
		at   uint64
		want Found
	}{
		{0, page}, {1, page}, {255, page},
		{lastAddress, last}, {lastAddress - 255, last}, {lastAddress - 256, Found{}},
		{1 << 18, Found{}}, {1<<18 + 255, Found{}}, {1 << 19, Found{}}, {1 << 32, Found{}}, {1 << 63, Found{}},
		{math.MaxUint64 - 1<<18 + 1, Found{}}, {math.MaxUint64 - 1, Found{}}, {math.MaxUint64, Found{}},
	} {
		for access := range 3 {
			wantOne(t, "address", m, secondRoot, c.at, access, true, c.want)
		}
	}
}

func TestOnePlaces(t *testing.T) {
	for _, upper := range []int{0, 1, 15, 16, 30, 31} {
		for _, lower := range []int{0, 1, 15, 16, 30, 31} {
			m := newMemory(t)
			put(t, m, frames-2, upper, table(frames-1))
			put(t, m, frames-1, lower, rwx(65535))
			want := Found{Frame: 65535, Read: true, Write: true, Exec: true, User: true, Levels: 2}
			at := uint64(upper<<13 + lower<<8)
			wantOne(t, "its own", m, frames-2, at+255, entry.Store, true, want)
			for other := range uint64(1 << 10) {
				if other<<8 != at {
					wantOne(t, "another", m, frames-2, other<<8, entry.Store, true, Found{})
				}
			}
		}
	}
}

func TestOneUpper(t *testing.T) {
	for _, c := range []struct {
		name string
		v    uint64
	}{
		{"not valid", 0},
		{"not valid, all else there", math.MaxUint64 - 1},
		{"leaf to read", secondLower<<10 + 1 + 2},
		{"leaf to execute", secondLower<<10 + 1 + 8},
		{"leaf to read, write and execute", secondLower<<10 + 1 + 2 + 4 + 8},
		{"User's leaf", secondLower<<10 + 1 + 2 + 16},
		{"User's table", secondLower<<10 + 1 + 16},
		{"used table", secondLower<<10 + 1 + 32},
		{"Write without Read", secondLower<<10 + 1 + 4},
		{"bit 7", secondLower<<10 + 1 + 1<<7},
		{"bit 26", secondLower<<10 + 1 + 1<<26},
		{"bit 63", secondLower<<10 + 1 + 1<<63},
		{"every bit", math.MaxUint64},
		{"table beyond the memory", frames<<10 + 1},
		{"table in the last of all frames", 65535<<10 + 1},
		{"table that is empty", 9<<10 + 1},
	} {
		m := laid(t)
		putNumber(t, m, secondRoot, 0, c.v)
		for access := range 3 {
			wantOne(t, c.name, m, secondRoot, 0, access, true, Found{})
			wantOne(t, c.name, m, secondRoot, 0, access, false, Found{})
		}
	}
}

func TestOneLower(t *testing.T) {
	for _, c := range []struct {
		name string
		v    uint64
	}{
		{"not valid", 0},
		{"not valid, all else there", 9<<10 + 2 + 4 + 8 + 16},
		{"table", secondLower<<10 + 1},
		{"Write without Read", 9<<10 + 1 + 4 + 16},
		{"Write and Exec without Read", 9<<10 + 1 + 4 + 8 + 16},
		{"bit 9", 9<<10 + 1 + 2 + 4 + 8 + 16 + 1<<9},
		{"bit 26", 9<<10 + 1 + 2 + 4 + 8 + 16 + 1<<26},
		{"bit 63", 9<<10 + 1 + 2 + 4 + 8 + 16 + 1<<63},
		{"every bit", math.MaxUint64},
	} {
		m := laid(t)
		putNumber(t, m, secondLower, 0, c.v)
		for access := range 3 {
			wantOne(t, c.name, m, secondRoot, 0, access, true, Found{})
			wantOne(t, c.name, m, secondRoot, 0, access, false, Found{})
		}
	}
}

// TestOneAllows: every leaf, every access, and numbers that are none.
func TestOneAllows(t *testing.T) {
	accesses := append([]int{entry.Fetch, entry.Load, entry.Store}, noAccess...)
	for flags := range uint64(128) {
		x, e := entry.Unpack(65535<<10 + flags)
		if e != api.OK || !entry.Leaf(x) {
			continue
		}
		m := laid(t)
		put(t, m, secondLower, 0, x)
		page := Found{Frame: 65535, Read: x.Read, Write: x.Write, Exec: x.Exec, User: x.User, Levels: 2}
		for _, access := range accesses {
			var want Found
			if access == 0 && x.Exec || access == 1 && x.Read || access == 2 && x.Write {
				want = page
			}
			wantOne(t, "whose it is", m, secondRoot, 3, access, x.User, want)
			wantOne(t, "whose it is not", m, secondRoot, 3, access, !x.User, Found{})
		}
	}
}

func TestTwoWithoutFirst(t *testing.T) {
	m := laid(t)
	put(t, m, secondLower, 1, kernels(rwx(base+1)))
	for _, first := range []int{-1, -2, -256, math.MinInt32, math.MinInt + 1, math.MinInt} {
		for access := range 3 {
			for _, user := range []bool{false, true} {
				page := Found{Frame: base + 7, Read: true, Write: true, Exec: true, User: user, Levels: 2}
				wantTwo(t, "page 7", m, first, 7*256+255, access, user, page)
				page.Frame = 40
				wantTwo(t, "last page", m, first, lastAddress, access, user, page)
				for _, at := range []uint64{256, 511, 16 * 256, lastAddress - 256} {
					wantTrap(t, "not the guest's", m, first, secondRoot, at, access, user, api.Trap{Cause: secondFault(access), Value: at, Guest: at})
				}
			}
		}
	}
}

func TestTwoLevels(t *testing.T) {
	m := laidTwice(t)
	page := Found{Frame: base + 9, Read: true, Write: true, Exec: true, User: true, Levels: 8}
	wantTwo(t, "User's", m, firstRoot, 255, entry.Load, true, page)
	page.User, page.Frame = false, base+10
	wantTwo(t, "Kernel's", m, firstRoot, 256, entry.Fetch, false, page)
	page.User, page.Frame = true, base+11
	wantTwo(t, "last", m, firstRoot, lastAddress, entry.Store, true, page)
	page.Frame, page.Levels = 40, 2
	wantTwo(t, "no first stage", m, -1, lastAddress, entry.Store, true, page)
}

func TestTwoReadersAndRoots(t *testing.T) {
	m := laidTwice(t)
	var none *mem.Memory
	var gone *panicking
	for _, c := range []struct {
		name   string
		m      Reader
		second int
	}{
		{"no reader", nil, secondRoot},
		{"no reader, no root", nil, -1},
		{"nil memory", none, secondRoot},
		{"memory that no call made", &mem.Memory{}, secondRoot},
		{"nil reader of a type that panics", gone, secondRoot},
		{"root -1", m, -1},
		{"least root", m, math.MinInt},
		{"root that is right modulo 2^56", m, -1<<56 + secondRoot},
		{"root beyond the memory", m, frames},
		{"root that is right modulo 2^56, above", m, 1<<56 + secondRoot},
		{"greatest root", m, math.MaxInt},
	} {
		for access := range 3 {
			for _, at := range []uint64{0, 7, 256, lastAddress} {
				wantTrap(t, c.name, c.m, -1, c.second, at, access, true, api.Trap{Cause: secondFault(access), Value: at, Guest: at})
				guest := firstRoot*256 + at>>13*8
				wantTrap(t, c.name, c.m, firstRoot, c.second, at, access, true, api.Trap{Cause: secondFault(access), Value: at, Guest: guest})
			}
			for _, at := range []uint64{1 << 18, math.MaxUint64} {
				wantTrap(t, c.name, c.m, -1, c.second, at, access, true, api.Trap{Cause: firstFault(access), Value: at})
				wantTrap(t, c.name, c.m, firstRoot, c.second, at, access, true, api.Trap{Cause: firstFault(access), Value: at})
			}
		}
	}
}

func TestTwoTooManyBits(t *testing.T) {
	m := laidTwice(t)
	for _, root := range []int{math.MinInt, -1, 0, firstRoot, 1 << 10, 1 << 56, math.MaxInt} {
		for _, at := range []uint64{1 << 18, 1<<18 + 7, 1 << 32, 1 << 63, math.MaxUint64 - 255, math.MaxUint64} {
			for access := range 3 {
				wantTrap(t, "too many bits", m, root, secondRoot, at, access, true, api.Trap{Cause: firstFault(access), Value: at})
				wantTrap(t, "too many bits", m, root, secondRoot, at, access, false, api.Trap{Cause: firstFault(access), Value: at})
			}
		}
	}
}

// TestTwoSecondRefuses: at the first entry, at the second entry, and at the page.
func TestTwoSecondRefuses(t *testing.T) {
	for _, c := range []struct {
		name  string
		page  int // of the guest, that the second stage refuses
		guest uint64
	}{
		{"first entry", firstRoot, firstRoot*256 + 31*8},
		{"second entry", firstLast, firstLast*256 + 31*8},
		{"page", 11, 11*256 + 254},
	} {
		for _, x := range []entry.Entry{{}, table(secondLower), kernels(rwx(base + c.page))} {
			m := laidTwice(t)
			put(t, m, secondLower, c.page, x)
			for access := range 3 {
				want := api.Trap{Cause: secondFault(access), Value: lastAddress - 1, Guest: c.guest}
				wantTrap(t, c.name, m, firstRoot, secondRoot, lastAddress-1, access, true, want)
			}
		}
		m := laidTwice(t)
		putNumber(t, m, secondLower, c.page, math.MaxUint64)
		want := api.Trap{Cause: api.GuestStore, Value: lastAddress - 1, Guest: c.guest}
		wantTrap(t, c.name+" by no entry", m, firstRoot, secondRoot, lastAddress-1, entry.Store, true, want)
		failed := failing{m, secondLower*256 + uint64(c.page)*8, api.ErrBound}
		wantTrap(t, c.name+" by an error", failed, firstRoot, secondRoot, lastAddress-1, entry.Store, true, want)
		broken := &panicking{m, secondLower*256 + uint64(c.page)*8}
		wantTrap(t, c.name+" by a panic", broken, firstRoot, secondRoot, lastAddress-1, entry.Store, true, want)
	}
}

// TestTwoEntriesAreLoads: the tables of the first stage need to be read, and no more, whatever is asked for.
func TestTwoEntriesAreLoads(t *testing.T) {
	for access := range 3 {
		for _, p := range []int{firstRoot, firstLower} {
			m := laidTwice(t)
			put(t, m, secondLower, p, without(without(rwx(base+p), entry.Fetch), entry.Store))
			page := Found{Frame: base + 9, Read: true, Write: true, Exec: true, User: true, Levels: 8}
			wantTwo(t, "table to be read alone", m, firstRoot, 7, access, true, page)
			put(t, m, secondLower, p, without(rwx(base+p), entry.Load))
			want := api.Trap{Cause: secondFault(access), Value: 7, Guest: uint64(p) * 256}
			wantTrap(t, "table not to be read", m, firstRoot, secondRoot, 7, access, true, want)
		}
	}
}

// TestTwoFirstRefuses: at the first entry and at the second, whatever hinders it.
func TestTwoFirstRefuses(t *testing.T) {
	const at = 7
	bad := func(name string, m Reader) {
		t.Helper()
		for access := range 3 {
			wantTrap(t, name, m, firstRoot, secondRoot, at, access, true, api.Trap{Cause: firstFault(access), Value: at})
		}
	}
	for _, c := range []struct {
		name string
		v    uint64
	}{
		{"upper not valid", 0},
		{"upper a leaf", firstLower<<10 + 1 + 2 + 4 + 8 + 16},
		{"upper a leaf to execute", firstLower<<10 + 1 + 8},
		{"upper no entry", firstLower<<10 + 1 + 1<<8},
		{"upper User's table", firstLower<<10 + 1 + 16},
	} {
		m := laidTwice(t)
		putNumber(t, m, base+firstRoot, 0, c.v)
		bad(c.name, m)
	}
	for _, c := range []struct {
		name string
		v    uint64
	}{
		{"lower not valid", 0},
		{"lower a table", 9<<10 + 1},
		{"lower no entry", 9<<10 + 1 + 2 + 4 + 8 + 16 + 1<<8},
		{"lower the Kernel's", 9<<10 + 1 + 2 + 4 + 8},
	} {
		m := laidTwice(t)
		putNumber(t, m, base+firstLower, 0, c.v)
		bad(c.name, m)
	}
	m := laidTwice(t)
	bad("error at the upper entry", failing{m, (base + firstRoot) * 256, api.ErrBound})
	bad("error at the lower entry", failing{m, (base + firstLower) * 256, api.ErrBound})
	bad("panic at the upper entry", &panicking{m, (base + firstRoot) * 256})
	bad("panic at the lower entry", &panicking{m, (base + firstLower) * 256})
	put(t, m, secondLower, firstLower, rwx(frames))
	bad("lower table in a frame beyond the memory", m)
	put(t, m, secondLower, firstRoot, rwx(65535))
	bad("upper table in a frame beyond the memory", m)
}

// TestTwoLacks: Read, Write and Exec, each lacking in one of the stages.
func TestTwoLacks(t *testing.T) {
	for lacking := range 3 {
		for access := range 3 {
			lacks := access == lacking || access == entry.Store && lacking == entry.Load
			got := without(rwx(base+9), lacking)
			page := Found{Frame: base + 9, Read: got.Read, Write: got.Write, Exec: got.Exec, User: true, Levels: 8}

			m := laidTwice(t)
			put(t, m, base+firstLower, 0, without(rwx(9), lacking))
			if lacks {
				wantTrap(t, "first stage", m, firstRoot, secondRoot, 3, access, true, api.Trap{Cause: firstFault(access), Value: 3})
			} else {
				wantTwo(t, "first stage", m, firstRoot, 3, access, true, page)
			}

			m = laidTwice(t)
			put(t, m, secondLower, 9, without(rwx(base+9), lacking))
			if lacks {
				want := api.Trap{Cause: secondFault(access), Value: 3, Guest: 9*256 + 3}
				wantTrap(t, "second stage", m, firstRoot, secondRoot, 3, access, true, want)
				want.Value = want.Guest
				wantTrap(t, "second stage alone", m, -1, secondRoot, 9*256+3, access, true, want)
			} else {
				wantTwo(t, "second stage", m, firstRoot, 3, access, true, page)
				page.Levels = 2
				wantTwo(t, "second stage alone", m, -1, 9*256+3, access, true, page)
			}
		}
	}
}

// TestTwoUser: whose the page is in the first stage tells who may, and is told; in the second stage all pages must be User's.
func TestTwoUser(t *testing.T) {
	m := laidTwice(t)
	for access := range 3 {
		page := Found{Frame: base + 9, Read: true, Write: true, Exec: true, User: true, Levels: 8}
		wantTwo(t, "User's", m, firstRoot, 0, access, true, page)
		wantTrap(t, "User's", m, firstRoot, secondRoot, 0, access, false, api.Trap{Cause: firstFault(access)})
		page.Frame, page.User = base+10, false
		wantTwo(t, "Kernel's", m, firstRoot, 256, access, false, page)
		wantTrap(t, "Kernel's", m, firstRoot, secondRoot, 256, access, true, api.Trap{Cause: firstFault(access), Value: 256})
	}
	put(t, m, secondLower, 10, kernels(rwx(base+10)))
	want := api.Trap{Cause: api.GuestLoad, Value: 256, Guest: 2560}
	wantTrap(t, "not User's below", m, firstRoot, secondRoot, 256, entry.Load, false, want)
}

// TestTwoGuestsBeyond: a guest's address with too many bits is refused by the second stage, and told.
func TestTwoGuestsBeyond(t *testing.T) {
	for _, frame := range []int{32, 1023, 1024, 1 << 13, 65534, 65535} {
		m := laidTwice(t)
		put(t, m, base+firstLower, 0, rwx(frame))
		want := api.Trap{Cause: api.GuestStore, Value: 9, Guest: uint64(frame)*256 + 9}
		if frame == 1023 {
			wantTwo(t, "last page", m, firstRoot, 9, entry.Store, true, Found{40, true, true, true, true, 8})
		} else {
			wantTrap(t, "page", m, firstRoot, secondRoot, 9, entry.Store, true, want)
		}
		put(t, m, base+firstRoot, 0, table(frame))
		want.Guest = uint64(frame)*256 + 17*8
		want.Value = 17 << 8
		if frame == 1023 {
			want = api.Trap{Cause: api.FaultStore, Value: 17 << 8} // its table is all 0
		}
		wantTrap(t, "lower table", m, firstRoot, secondRoot, 17<<8, entry.Store, true, want)
	}
}

// TestTwoFirstRoots: a root that is no page of the guest's, up to those whose addresses no number of 64 bits tells.
func TestTwoFirstRoots(t *testing.T) {
	m := laidTwice(t)
	for _, root := range []int{
		16, 31, 32, 1022, 1024, 1<<10 + firstRoot, 65535, 65536, 1<<16 + firstRoot, 1 << 32, 1<<55 + firstRoot,
		1<<56 - 1, 1 << 56, 1<<56 + firstRoot, 1<<57 + firstRoot, 1<<62 + firstRoot, math.MaxInt - 1, math.MaxInt,
	} {
		for access := range 3 {
			want := api.Trap{Cause: secondFault(access), Value: lastAddress, Guest: uint64(root)*256 + 31*8}
			wantTrap(t, "root", m, root, secondRoot, lastAddress, access, true, want)
		}
	}
}

// TestTwoNoAccess: a number that is no access is refused, where a page would be found and where there is none, and told by a trap.
func TestTwoNoAccess(t *testing.T) {
	m := laidTwice(t)
	for _, access := range noAccess {
		for _, user := range []bool{false, true} {
			for _, at := range []uint64{0, 7, 256, 16 * 256, lastAddress, 1 << 18, math.MaxUint64} {
				for _, root := range []int{-1, firstRoot, 20} {
					page, trap := Two(m, root, secondRoot, at, access, user)
					if page != (Found{}) || trap == (api.Trap{}) || trap.Value != at {
						t.Errorf("Two(%d, %d, %d, %v) = %v, %v", root, at, access, user, page, trap)
					}
				}
			}
		}
		wantTrap(t, "no first stage", m, -1, secondRoot, 0, access, true, api.Trap{Cause: api.GuestLoad})
		wantTrap(t, "first stage", m, firstRoot, secondRoot, 0, access, true, api.Trap{Cause: api.FaultLoad})
		wantTrap(t, "too many bits", m, firstRoot, secondRoot, 1<<18, access, true, api.Trap{Cause: api.FaultLoad, Value: 1 << 18})
	}
}

// TestNothingIsChanged: a walk reads, and what it tells is the same again.
func TestNothingIsChanged(t *testing.T) {
	m := laidTwice(t)
	before := m.Clone()
	for range 2 {
		wantTwo(t, "again", m, firstRoot, lastAddress, entry.Store, true, Found{base + 11, true, true, true, true, 8})
		wantOne(t, "again", m, secondRoot, 0, entry.Store, true, Found{base, true, true, true, true, 2})
	}
	if !m.Same(before) {
		t.Error("the memory was changed")
	}
}

// chance tells numbers that look like chance, the same ones each time.
type chance uint64

func (c *chance) below(n int) int {
	*c = *c*6364136223846793005 + 1442695040888963407
	return int(uint64(*c) >> 33 % uint64(n))
}

// The model goes by the chapter's words, with the entries' bits read on the spot.
type model struct {
	m    *mem.Memory
	read int // how many entries
}

// number tells an entry's number; false: the memory, or Unpack, has none.
func (o *model) number(at uint64) (uint64, bool) {
	v, e := o.m.Load(at, 8)
	o.read++
	if e != api.OK {
		return 0, false
	}
	if v&1 == 0 {
		return 0, true
	}
	_, e = entry.Unpack(v)
	return v, e == api.OK
}

func isLeaf(v uint64) bool { return v&1 != 0 && v&(2|8) != 0 }

func allowed(v uint64, access int, user bool) bool {
	if access < 0 || access > 2 || !isLeaf(v) || v>>4&1 != 0 != user {
		return false
	}
	return v>>[3]int{3, 1, 2}[access]&1 != 0
}

func (o *model) one(root int, at uint64, access int, user bool) (uint64, bool) {
	if root < 0 || root >= frames || at >= 1<<18 {
		return 0, false
	}
	upper, ok := o.number(uint64(root)*256 + at>>13*8)
	if !ok || upper&1 == 0 || isLeaf(upper) {
		return 0, false
	}
	lower, ok := o.number(upper>>10*256 + at>>8%32*8)
	return lower, ok && allowed(lower, access, user)
}

// guestEntry reads an entry of the first stage; a trap is the second stage's.
func (o *model) guestEntry(second int, guest uint64, beyond api.Trap) (v uint64, ok bool, trap api.Trap) {
	under, ok := o.one(second, guest, 1, true)
	if !ok {
		beyond.Guest = guest
		return 0, false, beyond
	}
	v, ok = o.number(under>>10*256 + guest%256)
	return v, ok, api.Trap{}
}

func (o *model) two(first, second int, at uint64, access int, user bool) (Found, api.Trap) {
	kind := access
	if access < 0 || access > 2 {
		kind = 1
	}
	refused := api.Trap{Cause: [3]int{12, 13, 15}[kind], Value: at}
	beyond := api.Trap{Cause: [3]int{20, 21, 23}[kind], Value: at}
	if at >= 1<<18 {
		return Found{}, refused
	}
	guest, flags := at, uint64(15)
	if first >= 0 {
		upper, ok, trap := o.guestEntry(second, uint64(first)*256+at>>13*8, beyond)
		if trap != (api.Trap{}) {
			return Found{}, trap
		}
		if !ok || upper&1 == 0 || isLeaf(upper) {
			return Found{}, refused
		}
		lower, ok, trap := o.guestEntry(second, upper>>10*256+at>>8%32*8, beyond)
		if trap != (api.Trap{}) {
			return Found{}, trap
		}
		if !ok || !allowed(lower, access, user) {
			return Found{}, refused
		}
		guest, flags = lower>>10*256+at%256, lower
	}
	under, ok := o.one(second, guest, access, true)
	if !ok {
		beyond.Guest = guest
		return Found{}, beyond
	}
	flags &= under
	return Found{int(under >> 10), flags&2 != 0, flags&4 != 0, flags&8 != 0, user, o.read}, api.Trap{}
}

// scatter lays tables by chance, of both stages, with few pages, so that many walks meet what others have laid, entries that are none too.
func scatter(t *testing.T, c *chance) *mem.Memory {
	t.Helper()
	m := newMemory(t)
	for _, frame := range []int{1, 2, 3, base + 4, base + 5, base + 6} {
		for place := range 32 {
			putNumber(t, m, frame, place, scattered(c, frame))
		}
	}
	if c.below(2) == 0 { // that the tables of the first stage may mostly be read
		for p := range pages {
			put(t, m, secondLower, p, rwx(base+p))
		}
	}
	return m
}

func scattered(c *chance, frame int) uint64 {
	switch {
	case c.below(12) == 0:
		return uint64(c.below(65536))<<10 + uint64(c.below(1<<10))
	case frame == secondRoot:
		return uint64(secondLower+c.below(2))<<10 + 1
	case frame == base+firstRoot:
		return uint64(firstLower+c.below(2))<<10 + 1
	case frame > base:
		return uint64(c.below(pages))<<10 + 1 + uint64(c.below(16))<<1
	}
	return uint64(base+c.below(pages))<<10 + 17 + uint64(c.below(8))<<1
}

func TestModel(t *testing.T) {
	c := chance(1)
	pagesFound, ones, traps := 0, 0, map[int]int{}
	accesses := []int{0, 1, 2, 0, 1, 2, 0, 1, 2, -1, 3, math.MinInt, math.MaxInt}
	firsts := []int{firstRoot, firstRoot, firstRoot, firstRoot, -1, 0, firstLower, firstLast, 15, 16, 1023, 1024, 65536}
	for range 200 {
		m := scatter(t, &c)
		for range 200 {
			at := uint64(c.below(1 << 18))
			if c.below(2) == 0 {
				at = uint64(c.below(1 << 12))
			}
			if c.below(50) == 0 {
				at += 1 << 18
			}
			access, user := accesses[c.below(len(accesses))], c.below(2) == 0
			root, under := firsts[c.below(len(firsts))], secondRoot
			if c.below(20) == 0 {
				under = c.below(frames+4) - 2
			}
			want, wanted := (&model{m: m}).two(root, under, at, access, user)
			got, trap := Two(m, root, under, at, access, user)
			if got != want || trap != wanted {
				t.Fatalf("Two(%d, %d, %d, %d, %v) = %v, %v, not %v, %v", root, under, at, access, user, got, trap, want, wanted)
			}
			checkFound(t, m, under, got, trap, access)
			if trap == (api.Trap{}) {
				pagesFound++
			}
			traps[trap.Cause]++
			v, ok := (&model{m: m}).one(under, at, access, user)
			var page Found
			if ok {
				ones++
				page = Found{int(v >> 10), v&2 != 0, v&4 != 0, v&8 != 0, v&16 != 0, 2}
			}
			wantOne(t, "model", m, under, at, access, user, page)
		}
	}
	for _, cause := range []int{12, 13, 15, 20, 21, 23} {
		if traps[cause] < 100 {
			t.Errorf("the cause %d came only %d times", cause, traps[cause])
		}
	}
	if pagesFound < 1000 || ones < 1000 {
		t.Errorf("only %d and %d pages were found", pagesFound, ones)
	}
}

// checkFound: what is found lies in a frame that the second stage's tables name, and allows what was asked for.
func checkFound(t *testing.T, m *mem.Memory, root int, got Found, trap api.Trap, access int) {
	t.Helper()
	if trap != (api.Trap{}) {
		if got != (Found{}) {
			t.Errorf("%v beside %v", got, trap)
		}
		return
	}
	if !slices.Contains(named(m, root), got.Frame) {
		t.Errorf("the frame %d is in no table of the second stage", got.Frame)
	}
	if !(access == 0 && got.Exec || access == 1 && got.Read || access == 2 && got.Write) {
		t.Errorf("%v does not allow %d", got, access)
	}
}

// named tells the frames of all pages of a second stage.
func named(m *mem.Memory, root int) []int {
	var out []int
	for upper := range uint64(32) {
		v, _ := m.Load(uint64(root)*256+upper*8, 8)
		x, e := entry.Unpack(v)
		if e != api.OK || !x.Valid || entry.Leaf(x) {
			continue
		}
		for lower := range uint64(32) {
			v, _ = m.Load(uint64(x.Frame)*256+lower*8, 8)
			if page, e := entry.Unpack(v); e == api.OK && entry.Leaf(page) {
				out = append(out, page.Frame)
			}
		}
	}
	return out
}
