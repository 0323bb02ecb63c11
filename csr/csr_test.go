package csr

import (
	"math"
	"testing"

	"palisade/api"
)

const allBits = math.MaxUint64

// state is all registers' numbers.
type state [12]uint64

// edgeInts are numbers at both ends of int, and around the edges within.
var edgeInts = []int{math.MinInt, math.MinInt + 1, math.MinInt32 - 1, math.MinInt32, -256, -2, -1, 0, 1, 2, 3, 255, math.MaxInt32, math.MaxInt32 + 1, 1 << 62, math.MaxInt - 1, math.MaxInt}

// noRegister are numbers that are no register's; some of them would be, cut to fewer bits.
var noRegister = []int{math.MinInt, math.MinInt + 11, math.MinInt32, -12, -11, -2, -1, 12, 13, 15, 16, 64, 255, 256, 1 << 12, 1 << 32, 1<<32 + 3, math.MaxInt32, math.MaxInt - 1, math.MaxInt}

// noMode are numbers that are no mode; some of them would be, cut to fewer bits.
var noMode = []int{math.MinInt, math.MinInt + 1, math.MinInt32, -2, -1, 2, 3, 255, 256, 257, 1 << 32, 1<<32 + 1, math.MaxInt - 1, math.MaxInt}

// notKernel are the numbers in which no instruction reaches a register.
var notKernel = append([]int{api.User}, noMode...)

// allModes are the two modes, and what is none.
var allModes = append([]int{api.User, api.Kernel}, noMode...)

// numbers are those with all bits set, with none, with each bit by itself and all but it, and some of a fixed scatter.
func numbers() []uint64 {
	list := []uint64{0, allBits, 0x5555555555555555, 0xaaaaaaaaaaaaaaaa, 0x0123456789abcdef, 1<<63 + 5}
	for bit := range 64 {
		list = append(list, 1<<bit, allBits&^(1<<bit))
	}
	s := scatter(1)
	for range 32 {
		list = append(list, s.next())
	}
	return list
}

// scatter tells the same numbers in each run.
type scatter uint64

func (s *scatter) next() uint64 {
	*s = *s*6364136223846793005 + 1442695040888963407
	x := uint64(*s)
	return x ^ x>>29
}

func (s *scatter) below(n int) int { return int(s.next() >> 8 % uint64(n)) }

// fileOf makes a file with these numbers.
func fileOf(t *testing.T, want state) *File {
	t.Helper()
	f := New(0)
	for n, v := range want {
		if e := f.Set(n, v); e != api.OK {
			t.Fatalf("Set(%d, %#x) = %d", n, v, int(e))
		}
	}
	wantState(t, f, want, "Set of each")
	return f
}

func stateOf(f *File) state {
	var s state
	for n := range s {
		s[n] = f.Get(n)
	}
	return s
}

func wantState(t *testing.T, f *File, want state, behind string, args ...any) {
	t.Helper()
	if got := stateOf(f); got != want {
		t.Errorf("behind "+behind+" the registers are %#x; want %#x", append(args, got, want)...)
	}
}

// mixed are numbers that differ from one another and have bits that no write leaves.
func mixed() state {
	s := scatter(7)
	var m state
	for n := range m {
		m[n] = s.next()
	}
	return m
}

func TestExample(t *testing.T) {
	f := New(2)
	if v, e := f.Read(Hartid, api.Kernel); v != 2 || e != api.OK {
		t.Errorf("Read(Hartid, Kernel) = %d, %d", v, int(e))
	}
	if v, e := f.Read(Status, api.User); v != 0 || e != api.ErrFault {
		t.Errorf("Read(Status, User) = %d, %d", v, int(e))
	}
	if e := f.Write(Compare, api.Kernel, 1); e != api.ErrBusy {
		t.Errorf("Write(Compare, Kernel, 1) = %d", int(e))
	}
	if e := f.Set(Enable, 2); e != api.OK {
		t.Errorf("Set(Enable, 2) = %d", int(e))
	}
	if e := f.Line(Soft, true); e != api.OK {
		t.Errorf("Line(Soft, true) = %d", int(e))
	}
	if c, ok := f.Due(api.Kernel); c != 0 || ok {
		t.Errorf("Due(Kernel) = %d, %v", c, ok)
	}
	if c, ok := f.Due(api.User); c != api.IrqSoft || !ok {
		t.Errorf("Due(User) = %d, %v", c, ok)
	}
	if pc, mode := f.Enter(api.Trap{Cause: api.IrqSoft}, 8, api.User); pc != 0 || mode != api.Kernel {
		t.Errorf("Enter = %d, %d", pc, mode)
	}
	if v := f.Get(Cause); v != 1<<63+1 {
		t.Errorf("Get(Cause) = %#x", v)
	}
	if pc, mode := f.Leave(); pc != 8 || mode != api.User {
		t.Errorf("Leave = %d, %d", pc, mode)
	}
}

func TestNew(t *testing.T) {
	for _, hart := range edgeInts {
		f := New(hart)
		if f == nil {
			t.Fatalf("New(%d) = nil", hart)
		}
		wantState(t, f, state{Hartid: uint64(hart)}, "New(%d)", hart)
		if v, e := f.Read(Hartid, api.Kernel); v != uint64(hart) || e != api.OK {
			t.Errorf("New(%d): Read(Hartid) = %#x, %d", hart, v, int(e))
		}
		if f.Wakes() || f.Root() != -1 {
			t.Errorf("New(%d): Wakes = %v, Root = %d", hart, f.Wakes(), f.Root())
		}
		for _, mode := range allModes {
			if c, ok := f.Due(mode); c != 0 || ok {
				t.Errorf("New(%d): Due(%d) = %d, %v", hart, mode, c, ok)
			}
		}
	}
	if v := New(-1).Get(Hartid); v != allBits {
		t.Errorf("New(-1): Hartid = %#x", v)
	}
	if v := New(math.MinInt).Get(Hartid); v != 1<<63 {
		t.Errorf("New(MinInt): Hartid = %#x", v)
	}
	a, b := New(1), New(1)
	a.Set(Scratch, 5)
	if a == b || b.Get(Scratch) != 0 {
		t.Error("two calls of New told one file")
	}
}

func TestRead(t *testing.T) {
	want := mixed()
	f := fileOf(t, want)
	for n, v := range want {
		if got, e := f.Read(n, api.Kernel); got != v || e != api.OK {
			t.Errorf("Read(%d, Kernel) = %#x, %d; want %#x", n, got, int(e), v)
		}
		for _, mode := range notKernel {
			if got, e := f.Read(n, mode); got != 0 || e != api.ErrFault {
				t.Errorf("Read(%d, %d) = %#x, %d; want 0, ErrFault", n, mode, got, int(e))
			}
		}
	}
	for _, n := range noRegister {
		if got, e := f.Read(n, api.Kernel); got != 0 || e != api.ErrNone {
			t.Errorf("Read(%d, Kernel) = %#x, %d; want 0, ErrNone", n, got, int(e))
		}
		for _, mode := range notKernel {
			if got, e := f.Read(n, mode); got != 0 || e != api.ErrFault {
				t.Errorf("Read(%d, %d) = %#x, %d; want 0, ErrFault", n, mode, got, int(e))
			}
		}
	}
	wantState(t, f, want, "Read")
}

// leftBy is what the chapter's table says that a write of v leaves of a register that was so before.
func leftBy(n int, before, v uint64) uint64 {
	switch n {
	case Status:
		return v & (1<<1 | 1<<5 | 1<<8)
	case Enable:
		return v & (1<<1 | 1<<5 | 1<<9)
	case Pending:
		return before - before&2 + v&2
	case Vector, Epc:
		return v / 4 * 4
	case Cause, Value, Scratch:
		return v
	case Satp:
		if v < 1<<63 {
			return 0
		}
		return 1<<63 + v%(1<<16)
	}
	return before
}

func TestWriteLeaves(t *testing.T) {
	befores := []state{{}, mixed()}
	full := state{}
	for n := range full {
		full[n] = allBits
	}
	befores = append(befores, full)
	for _, before := range befores {
		for n := Status; n <= Satp; n++ {
			for _, v := range numbers() {
				f := fileOf(t, before)
				if e := f.Write(n, api.Kernel, v); e != api.OK {
					t.Errorf("Write(%d, Kernel, %#x) = %d", n, v, int(e))
				}
				want := before
				want[n] = leftBy(n, before[n], v)
				wantState(t, f, want, "Write(%d, Kernel, %#x)", n, v)
				if got, e := f.Read(n, api.Kernel); got != want[n] || e != api.OK {
					t.Errorf("Write(%d, Kernel, %#x): Read = %#x, %d; want %#x", n, v, got, int(e), want[n])
				}
			}
		}
	}
}

func TestWriteOfSomeNumbers(t *testing.T) {
	rows := []struct {
		name            string
		n               int
		before, v, left uint64
	}{
		{"Status of all bits", Status, 0, allBits, 0x122},
		{"Status of none", Status, 0x122, 0, 0},
		{"Enable of all bits", Enable, 0, allBits, 0x222},
		{"Enable of none", Enable, 0x222, 0, 0},
		{"Pending of all bits", Pending, 0, allBits, 2},
		{"Pending of none", Pending, 0x222, 0, 0x220},
		{"Pending keeps its other lines", Pending, 0x220, 2, 0x222},
		{"Pending keeps what is set", Pending, 0x222, allBits, 0x222},
		{"Pending keeps what is no line", Pending, allBits, 0, allBits - 2},
		{"Vector", Vector, 5, 0x1007, 0x1004},
		{"Epc", Epc, 5, allBits, allBits - 3},
		{"Cause", Cause, 5, allBits, allBits},
		{"Value", Value, 5, 3, 3},
		{"Scratch", Scratch, 5, 7, 7},
		{"Satp without Paged", Satp, 1<<63 + 5, 1<<63 - 1, 0},
		{"Satp of Paged alone", Satp, 0, 1 << 63, 1 << 63},
		{"Satp of all bits", Satp, 0, allBits, 1<<63 + 65535},
		{"Satp of the bit above the root's", Satp, 0, 1<<63 + 1<<16, 1 << 63},
	}
	for _, row := range rows {
		f := New(0)
		f.Set(row.n, row.before)
		if e := f.Write(row.n, api.Kernel, row.v); e != api.OK {
			t.Errorf("%s: Write = %d", row.name, int(e))
		}
		if got := f.Get(row.n); got != row.left {
			t.Errorf("%s: %#x is left; want %#x", row.name, got, row.left)
		}
	}
}

func TestWriteRefused(t *testing.T) {
	before := mixed()
	for _, v := range []uint64{0, 1, 2, 1 << 63, allBits} {
		f := fileOf(t, before)
		for n, want := range map[int]api.Errno{Time: api.ErrNone, Hartid: api.ErrNone, Compare: api.ErrBusy} {
			if e := f.Write(n, api.Kernel, v); e != want {
				t.Errorf("Write(%d, Kernel, %#x) = %d; want %d", n, v, int(e), int(want))
			}
		}
		for _, n := range noRegister {
			if e := f.Write(n, api.Kernel, v); e != api.ErrNone {
				t.Errorf("Write(%d, Kernel, %#x) = %d; want ErrNone", n, v, int(e))
			}
		}
		for _, mode := range notKernel {
			for n := range before {
				if e := f.Write(n, mode, v); e != api.ErrFault {
					t.Errorf("Write(%d, %d, %#x) = %d; want ErrFault", n, mode, v, int(e))
				}
			}
			for _, n := range noRegister {
				if e := f.Write(n, mode, v); e != api.ErrFault {
					t.Errorf("Write(%d, %d, %#x) = %d; want ErrFault", n, mode, v, int(e))
				}
			}
		}
		wantState(t, f, before, "what is refused")
	}
}

func TestGetSet(t *testing.T) {
	before := mixed()
	for n := range before {
		for _, v := range numbers() {
			f := fileOf(t, before)
			if e := f.Set(n, v); e != api.OK {
				t.Errorf("Set(%d, %#x) = %d", n, v, int(e))
			}
			want := before
			want[n] = v
			wantState(t, f, want, "Set(%d, %#x)", n, v)
		}
	}
	f := fileOf(t, before)
	for _, n := range noRegister {
		if v := f.Get(n); v != 0 {
			t.Errorf("Get(%d) = %#x; want 0", n, v)
		}
		if e := f.Set(n, allBits); e != api.ErrArg {
			t.Errorf("Set(%d) = %d; want ErrArg", n, int(e))
		}
		if v := f.Get(n); v != 0 {
			t.Errorf("behind Set: Get(%d) = %#x; want 0", n, v)
		}
	}
	wantState(t, f, before, "Set of no register")
}

func TestLine(t *testing.T) {
	isLine := map[int]bool{1: true, 5: true, 9: true}
	for _, pending := range []uint64{0, 1 << 1, 1 << 5, 1 << 9, 0x222, allBits, allBits - 0x222, 0x0123456789abcdef} {
		before := mixed()
		before[Pending] = pending
		for line := -70; line <= 140; line++ {
			for _, on := range []bool{false, true} {
				f := fileOf(t, before)
				e := f.Line(line, on)
				want, told := before, api.ErrArg
				if isLine[line] {
					told = api.OK
					want[Pending] &^= 1 << line
					if on {
						want[Pending] |= 1 << line
					}
				}
				if e != told {
					t.Errorf("Line(%d, %v) = %d; want %d", line, on, int(e), int(told))
				}
				wantState(t, f, want, "Line(%d, %v)", line, on)
			}
		}
	}
	f := New(0)
	for _, line := range []int{math.MinInt, math.MinInt + 1, math.MinInt + 5, -1 << 32, 1<<8 + 1, 1<<16 + 5, 1<<32 + 1, 1<<32 + 9, api.IrqSoft, api.IrqTimer, api.IrqDevice, math.MaxInt - 1, math.MaxInt} {
		if e := f.Line(line, true); e != api.ErrArg {
			t.Errorf("Line(%d, true) = %d; want ErrArg", line, int(e))
		}
	}
	wantState(t, f, state{}, "Line of no line")
}

// Lines that are set and taken away one behind the other stand by themselves.
func TestLinesApart(t *testing.T) {
	f := New(0)
	rows := []struct {
		line    int
		on      bool
		pending uint64
	}{
		{Soft, true, 0x2}, {Soft, true, 0x2}, {Device, true, 0x202}, {Timer, true, 0x222}, {Soft, false, 0x220},
		{Soft, false, 0x220}, {Device, false, 0x20}, {Soft, true, 0x22}, {Timer, false, 0x2}, {Soft, false, 0},
	}
	for _, row := range rows {
		if e := f.Line(row.line, row.on); e != api.OK || f.Get(Pending) != row.pending {
			t.Errorf("Line(%d, %v) = %d, Pending %#x; want %#x", row.line, row.on, int(e), f.Get(Pending), row.pending)
		}
	}
}

// dueOf is what is due by the chapter's words.
func dueOf(enable, pending uint64, comes bool) (int, bool) {
	if !comes {
		return 0, false
	}
	for _, line := range []int{9, 1, 5} {
		if enable>>line%2 == 1 && pending>>line%2 == 1 {
			return 1<<62 + line, true
		}
	}
	return 0, false
}

// linesOf is a number with the lines that a set of three means, and with bits beside them that are no line's.
func linesOf(set int, beside uint64) uint64 {
	v := beside &^ 0x222
	for i, line := range []int{1, 5, 9} {
		if set>>i&1 == 1 {
			v |= 1 << line
		}
	}
	return v
}

func TestDueAndWakes(t *testing.T) {
	for enabled := range 8 {
		for set := range 8 {
			for _, beside := range []uint64{0, allBits} {
				for _, status := range []uint64{0, On, WasOn, WasKern, On | WasOn | WasKern, allBits, allBits - On} {
					before := state{Status: status, Enable: linesOf(enabled, beside), Pending: linesOf(set, beside), Hartid: 3}
					f := fileOf(t, before)
					for _, mode := range allModes {
						comes := mode == 0 || status>>1%2 == 1
						cause, is := dueOf(before[Enable], before[Pending], comes)
						if c, ok := f.Due(mode); c != cause || ok != is {
							t.Errorf("Status %#x, Enable %#x, Pending %#x: Due(%d) = %#x, %v; want %#x, %v", status, before[Enable], before[Pending], mode, c, ok, cause, is)
						}
					}
					if got, want := f.Wakes(), enabled&set != 0; got != want {
						t.Errorf("Status %#x, Enable %#x, Pending %#x: Wakes = %v", status, before[Enable], before[Pending], got)
					}
					wantState(t, f, before, "Due and Wakes")
				}
			}
		}
	}
}

func TestDueOrder(t *testing.T) {
	f := New(0)
	f.Set(Enable, 0x222)
	for _, line := range []int{Soft, Timer, Device} {
		f.Line(line, true)
	}
	for _, row := range []struct{ cause, line int }{{api.IrqDevice, Device}, {api.IrqSoft, Soft}, {api.IrqTimer, Timer}} {
		if c, ok := f.Due(api.User); c != row.cause || !ok {
			t.Errorf("Due(User) = %#x, %v; want %#x", c, ok, row.cause)
		}
		if !f.Wakes() {
			t.Error("Wakes = false")
		}
		f.Line(row.line, false)
	}
	if c, ok := f.Due(api.User); c != 0 || ok || f.Wakes() {
		t.Errorf("Due(User) = %#x, %v, Wakes = %v; want none", c, ok, f.Wakes())
	}
}

// causes are causes, and what Cause has of them.
var causes = []struct {
	cause int
	has   uint64
}{
	{api.CauseAlign, 0}, {api.CauseIllegal, 2}, {api.CauseLoad, 4}, {api.CauseStore, 6}, {api.CauseUser, 8}, {api.CauseKernel, 9},
	{api.FaultFetch, 12}, {api.FaultLoad, 13}, {api.FaultStore, 15}, {api.GuestFetch, 20}, {api.GuestLoad, 21}, {api.GuestStore, 23},
	{api.IrqSoft, 1<<63 + 1}, {api.IrqTimer, 1<<63 + 5}, {api.IrqDevice, 1<<63 + 9},
	{1, 1}, {5, 5}, {1000, 1000}, {1 << 61, 1 << 61}, {-1, allBits}, {-9, allBits - 8}, {math.MinInt, 1 << 63}, {math.MinInt + 1, 1<<63 + 1},
	// What is beyond 2^62 but has no line is no interrupt.
	{1 << 62, 1 << 62}, {1<<62 + 2, 1<<62 + 2}, {math.MaxInt, math.MaxInt},
}

func TestEnter(t *testing.T) {
	pcs := []uint64{0, 1, 2, 3, 4, 7, 8, 0x1002, 1<<63 + 1, allBits - 4, allBits - 3, allBits}
	statuses := []uint64{0, On, WasOn, WasKern, On | WasOn, On | WasKern, WasOn | WasKern, On | WasOn | WasKern, allBits, allBits - On, 1<<63 + 1}
	s := scatter(3)
	for _, row := range causes {
		for _, pc := range pcs {
			for _, mode := range allModes {
				for _, status := range statuses {
					before := mixed()
					before[Status] = status
					f := fileOf(t, before)
					trap := api.Trap{Cause: row.cause, Value: s.next(), Guest: s.next()}
					at, to := f.Enter(trap, pc, mode)
					if at != before[Vector] || to != 1 {
						t.Errorf("Enter(%v, %#x, %d) = %#x, %d; want %#x, 1", trap, pc, mode, at, to, before[Vector])
					}
					want := before
					want[Epc] = pc / 4 * 4
					want[Cause] = row.has
					want[Value] = trap.Value
					want[Status] = status&^0x122 | status&2<<4
					if mode == 1 {
						want[Status] |= 1 << 8
					}
					wantState(t, f, want, "Enter(%v, %#x, %d) with Status %#x", trap, pc, mode, status)
				}
			}
		}
	}
}

// Enter tells Vector as it is, as a write left it or as Set did.
func TestEnterTellsVector(t *testing.T) {
	for _, v := range numbers() {
		f := New(0)
		f.Set(Vector, v)
		if at, mode := f.Enter(api.Trap{Cause: api.CauseUser}, 4, api.User); at != v || mode != api.Kernel {
			t.Errorf("Enter = %#x, %d; want %#x, Kernel", at, mode, v)
		}
		f.Write(Vector, api.Kernel, v)
		if at, _ := f.Enter(api.Trap{Cause: api.CauseUser}, 4, api.User); at != v&^3 {
			t.Errorf("Enter = %#x; want %#x", at, v&^3)
		}
	}
}

func TestLeave(t *testing.T) {
	for _, status := range numbers() {
		for _, epc := range []uint64{0, 3, 8, allBits} {
			before := mixed()
			before[Status] = status
			before[Epc] = epc
			f := fileOf(t, before)
			pc, mode := f.Leave()
			if pc != epc || mode != int(status>>8%2) {
				t.Errorf("Status %#x: Leave = %#x, %d; want %#x, %d", status, pc, mode, epc, status>>8%2)
			}
			want := before
			want[Status] = status&^0x122 | 1<<5 | status&(1<<5)>>4
			wantState(t, f, want, "Leave with Status %#x", status)
		}
	}
}

// The second Leave in a row goes to User, with interrupts on, for the first one left it so.
func TestLeaveTwice(t *testing.T) {
	for _, on := range []bool{false, true} {
		for _, from := range []int{api.User, api.Kernel} {
			f := New(0)
			f.turn(Status, On, on)
			f.Enter(api.Trap{Cause: api.CauseIllegal}, 12, from)
			if pc, mode := f.Leave(); pc != 12 || mode != from {
				t.Errorf("the first Leave = %d, %d; want 12, %d", pc, mode, from)
			}
			first := uint64(WasOn)
			if on {
				first |= On
			}
			if s := f.Get(Status); s != first {
				t.Errorf("behind the first Leave Status is %#x; want %#x", s, first)
			}
			if pc, mode := f.Leave(); pc != 12 || mode != api.User {
				t.Errorf("the second Leave = %d, %d; want 12, User", pc, mode)
			}
			if s := f.Get(Status); s != On|WasOn {
				t.Errorf("behind the second Leave Status is %#x; want %#x", s, On|WasOn)
			}
		}
	}
	f := New(0)
	if pc, mode := f.Leave(); pc != 0 || mode != api.User || f.Get(Status) != WasOn {
		t.Errorf("Leave by itself = %d, %d, Status %#x", pc, mode, f.Get(Status))
	}
}

func TestLeaveBehindEnter(t *testing.T) {
	for _, status := range numbers() {
		for _, row := range causes {
			for _, mode := range []int{api.User, api.Kernel} {
				for _, pc := range []uint64{0, 4, 0x1000, 1 << 63, allBits - 3} {
					before := mixed()
					before[Status] = status
					f := fileOf(t, before)
					f.Enter(api.Trap{Cause: row.cause}, pc, mode)
					if f.has(Status, On) {
						t.Errorf("Status %#x: On is set within the trap", status)
					}
					at, back := f.Leave()
					if at != pc || back != mode {
						t.Errorf("Status %#x: Leave = %#x, %d; want %#x, %d", status, at, back, pc, mode)
					}
					if f.Get(Status)&On != status&On {
						t.Errorf("Status %#x: behind Leave it is %#x", status, f.Get(Status))
					}
				}
			}
		}
	}
}

// A trap within a trap: who keeps Epc and Status by himself goes back through both.
func TestNestedTraps(t *testing.T) {
	for _, on := range []bool{false, true} {
		f := New(0)
		f.turn(Status, On, on)
		f.Enter(api.Trap{Cause: api.CauseUser}, 100, api.User)
		epc, status := f.Get(Epc), f.Get(Status)
		f.Enter(api.Trap{Cause: api.IrqTimer}, 200, api.Kernel)
		if pc, mode := f.Leave(); pc != 200 || mode != api.Kernel || f.has(Status, On) {
			t.Errorf("the inner Leave = %d, %d, Status %#x", pc, mode, f.Get(Status))
		}
		f.Write(Epc, api.Kernel, epc)
		f.Write(Status, api.Kernel, status)
		if pc, mode := f.Leave(); pc != 100 || mode != api.User || f.has(Status, On) != on {
			t.Errorf("the outer Leave = %d, %d, Status %#x", pc, mode, f.Get(Status))
		}
	}
}

// Enter takes interrupts away from Kernel until Leave, or a write, brings them back.
func TestInterruptIsTakenOnce(t *testing.T) {
	f := New(0)
	f.Write(Enable, api.Kernel, allBits)
	f.Write(Status, api.Kernel, On)
	f.Line(Device, true)
	cause, ok := f.Due(api.Kernel)
	if cause != api.IrqDevice || !ok {
		t.Fatalf("Due(Kernel) = %#x, %v", cause, ok)
	}
	_, mode := f.Enter(api.Trap{Cause: cause}, 16, api.Kernel)
	if c, ok := f.Due(mode); c != 0 || ok {
		t.Errorf("within the trap Due = %#x, %v", c, ok)
	}
	if !f.Wakes() {
		t.Error("within the trap Wakes = false")
	}
	_, mode = f.Leave()
	if c, ok := f.Due(mode); c != api.IrqDevice || !ok {
		t.Errorf("behind the trap Due = %#x, %v", c, ok)
	}
}

func TestRoot(t *testing.T) {
	for _, v := range numbers() {
		f := fileOf(t, state{Satp: v})
		want := -1
		if v >= 1<<63 {
			want = int(v % 65536)
		}
		if r := f.Root(); r != want {
			t.Errorf("Satp %#x: Root = %d; want %d", v, r, want)
		}
		f.Write(Satp, api.Kernel, v)
		if r := f.Root(); r != want {
			t.Errorf("Satp written with %#x: Root = %d; want %d", v, r, want)
		}
	}
	for _, row := range []struct {
		satp uint64
		root int
	}{{allBits, 65535}, {1<<63 - 1, -1}, {1 << 63, 0}, {1<<63 + 65535, 65535}, {1<<63 + 65536, 0}, {5, -1}, {0, -1}} {
		f := fileOf(t, state{Satp: row.satp})
		if r := f.Root(); r != row.root {
			t.Errorf("Satp %#x: Root = %d; want %d", row.satp, r, row.root)
		}
	}
	// No other register has a say in it.
	full := state{}
	for n := range full {
		full[n] = allBits
	}
	full[Satp] = 0
	if r := fileOf(t, full).Root(); r != -1 {
		t.Errorf("Root = %d; want -1", r)
	}
}

func TestClone(t *testing.T) {
	before := mixed()
	before[Status], before[Vector] = 0, 64
	changes := map[string]func(f *File){
		"Write": func(f *File) { f.Write(Scratch, api.Kernel, 1) },
		"Set":   func(f *File) { f.Set(Hartid, 1) },
		"Line":  func(f *File) { f.Line(Soft, before[Pending]&2 == 0) },
		"Enter": func(f *File) { f.Enter(api.Trap{Cause: 8}, 4, api.Kernel) },
		"Leave": func(f *File) { f.Leave() },
	}
	for name, change := range changes {
		f := fileOf(t, before)
		twin := f.Clone()
		if twin == nil || twin == f {
			t.Fatalf("Clone = %p of %p", twin, f)
		}
		wantState(t, twin, before, "Clone")
		change(f)
		if stateOf(f) == before {
			t.Errorf("%s changed nothing", name)
		}
		wantState(t, twin, before, name+" of the first one")
		f = fileOf(t, before)
		twin = f.Clone()
		change(twin)
		if stateOf(twin) == before {
			t.Errorf("%s of the clone changed nothing", name)
		}
		wantState(t, f, before, name+" of the clone")
	}
	for _, hart := range edgeInts {
		if v := New(hart).Clone().Clone().Get(Hartid); v != uint64(hart) {
			t.Errorf("a clone's clone has the Hartid %#x; want %#x", v, uint64(hart))
		}
	}
}

func TestNoFile(t *testing.T) {
	for name, f := range map[string]*File{"nil": nil, "plain": {}} {
		t.Run(name, func(t *testing.T) { wantNoFile(t, f) })
	}
}

func wantNoFile(t *testing.T, f *File) {
	ns := append([]int{Status, Enable, Pending, Satp, Time, Compare, Hartid}, noRegister...)
	for range 2 {
		for _, n := range ns {
			for _, mode := range allModes {
				if v, e := f.Read(n, mode); v != 0 || e != api.ErrNil {
					t.Errorf("Read(%d, %d) = %#x, %d; want 0, ErrNil", n, mode, v, int(e))
				}
				if e := f.Write(n, mode, allBits); e != api.ErrNil {
					t.Errorf("Write(%d, %d) = %d; want ErrNil", n, mode, int(e))
				}
			}
			if e := f.Set(n, allBits); e != api.ErrNil {
				t.Errorf("Set(%d) = %d; want ErrNil", n, int(e))
			}
			if v := f.Get(n); v != 0 {
				t.Errorf("Get(%d) = %#x; want 0", n, v)
			}
		}
		for _, line := range append([]int{Soft, Timer, Device}, edgeInts...) {
			if e := f.Line(line, true); e != api.ErrNil {
				t.Errorf("Line(%d, true) = %d; want ErrNil", line, int(e))
			}
		}
		for _, mode := range allModes {
			if c, ok := f.Due(mode); c != 0 || ok {
				t.Errorf("Due(%d) = %d, %v; want 0, false", mode, c, ok)
			}
			if pc, to := f.Enter(api.Trap{Cause: api.IrqSoft, Value: 1}, 8, mode); pc != 0 || to != 0 {
				t.Errorf("Enter = %d, %d; want zeros", pc, to)
			}
		}
		if f.Wakes() {
			t.Error("Wakes = true")
		}
		if pc, mode := f.Leave(); pc != 0 || mode != 0 {
			t.Errorf("Leave = %d, %d; want zeros", pc, mode)
		}
		if r := f.Root(); r != -1 {
			t.Errorf("Root = %d; want -1", r)
		}
		if twin := f.Clone(); twin != nil {
			t.Errorf("Clone = %v; want nil", twin)
		}
	}
	if f != nil && *f != (File{}) {
		t.Errorf("a plain file was changed: %v", *f)
	}
}

// A plain file with numbers in it is still one that no call made: nothing of them is told.
func TestPlainFileTellsNothing(t *testing.T) {
	f := &File{}
	for n := range f.regs {
		f.regs[n] = allBits
	}
	before := *f
	if v, e := f.Read(Satp, api.Kernel); v != 0 || e != api.ErrNil {
		t.Errorf("Read = %#x, %d", v, int(e))
	}
	if c, ok := f.Due(api.User); c != 0 || ok || f.Wakes() || f.Root() != -1 || f.Get(Cause) != 0 || f.Clone() != nil {
		t.Error("what no call made tells what it has")
	}
	if pc, mode := f.Enter(api.Trap{}, 8, api.User); pc != 0 || mode != 0 {
		t.Errorf("Enter = %#x, %d", pc, mode)
	}
	if pc, mode := f.Leave(); pc != 0 || mode != 0 {
		t.Errorf("Leave = %#x, %d", pc, mode)
	}
	if *f != before {
		t.Error("what no call made was changed")
	}
}

// model is a file as the chapter's words have it, in parts of its own.
type model struct {
	on, wasOn, wasKern bool
	regs               state
}

func (m *model) do(s *scatter, f *File, t *testing.T) {
	v := s.next()
	if s.below(2) == 0 {
		v &= s.next() & s.next()
	}
	mode := s.below(2)
	switch s.below(6) {
	case 0:
		n := s.below(9)
		if e := f.Write(n, 1, v); e != api.OK {
			t.Errorf("Write(%d, 1, %#x) = %d", n, v, int(e))
		}
		m.put(n, leftBy(n, m.regs[n], v))
	case 1:
		n := s.below(12)
		if n == Status {
			v &= 0x122
		}
		f.Set(n, v)
		m.put(n, v)
	case 2:
		line, on := []int{1, 5, 9}[s.below(3)], s.below(3) > 0
		f.Line(line, on)
		m.regs[Pending] &^= 1 << line
		if on {
			m.regs[Pending] |= 1 << line
		}
	case 3:
		row := causes[s.below(len(causes))]
		at, to := f.Enter(api.Trap{Cause: row.cause, Value: v}, v+1, mode)
		if at != m.regs[Vector] || to != 1 {
			t.Errorf("Enter = %#x, %d; want %#x, 1", at, to, m.regs[Vector])
		}
		m.wasOn, m.on, m.wasKern = m.on, false, mode == 1
		m.regs[Cause], m.regs[Value], m.regs[Epc] = row.has, v, (v+1)>>2<<2
	case 4:
		at, to := f.Leave()
		if at != m.regs[Epc] || (to == 1) != m.wasKern {
			t.Errorf("Leave = %#x, %d; want %#x, %v", at, to, m.regs[Epc], m.wasKern)
		}
		m.on, m.wasOn, m.wasKern = m.wasOn, true, false
	case 5:
		cause, is := dueOf(m.regs[Enable], m.regs[Pending], mode == 0 || m.on)
		if c, ok := f.Due(mode); c != cause || ok != is {
			t.Errorf("Due(%d) = %#x, %v; want %#x, %v", mode, c, ok, cause, is)
		}
	}
}

func (m *model) put(n int, v uint64) {
	m.regs[n] = v
	if n == Status {
		m.on, m.wasOn, m.wasKern = v&2 != 0, v&32 != 0, v&256 != 0
	}
}

func (m *model) state() state {
	s := m.regs
	s[Status] = 0
	for bit, is := range map[int]bool{1: m.on, 5: m.wasOn, 8: m.wasKern} {
		if is {
			s[Status] |= 1 << bit
		}
	}
	return s
}

func TestAgainstModel(t *testing.T) {
	for seed := range 40 {
		s := scatter(seed)
		f, m := New(seed), &model{}
		m.regs[Hartid] = uint64(seed)
		for step := range 500 {
			m.do(&s, f, t)
			wantState(t, f, m.state(), "step %d of the seed %d", step, seed)
			if step%50 == 49 {
				f = f.Clone()
			}
			if t.Failed() {
				return
			}
		}
	}
}
