package emulate

import (
	"math"
	"testing"

	"palisade/api"
	"palisade/insn"
)

// edgeInts are numbers at both ends of int, and around the edges within.
var edgeInts = []int{math.MinInt, math.MinInt + 1, -1 << 32, math.MinInt32 - 1, math.MinInt32, -256, -17, -16, -8, -4, -2, -1, 0, 1, 2, 3, 4, 5, 6, 7, 8, 9, 12, 14, 15, 16, 17, 31, 32, 64, 255, 256, 257, 260, 264, 1 << 31, 1<<31 + 4, 1 << 32, 1<<32 + 1, 1<<32 + 4, 1<<32 + 8, 1 << 61, 1 << 62, math.MaxInt - 1, math.MaxInt}

// edgeNumbers are numbers of 64 bits over the whole range: each width's lowest bytes with their topmost bit set and not.
var edgeNumbers = []uint64{
	0, 1, 2, 0x7f, 0x80, 0x81, 0xff, 0x100, 0x17f, 0x180, 0x7fff, 0x8000, 0xffff,
	0x7fffffff, 0x80000000, 0x80000001, 0xffffff7f, 0xffffff80, 0xffffffff, 0x100000000, 0x100000005, 0x17fffffff, 0x180000000, 0x1ffffffff,
	0x0123456789abcdef, 0xfedcba9876543210, 1<<63 - 1, 1 << 63, 1<<63 + 0x7f, 1<<63 + 0x80, 0xffffffff00000000, 0xffffffff7fffffff, 0xffffffff80000000, math.MaxUint64 - 1, math.MaxUint64,
}

// kind is what the chapter says of an operation that reaches a device, written out here once more.
type kind struct {
	name  string
	op    int
	write bool
	width int
}

var kinds = []kind{
	{"ld", 23, false, 8}, {"lw", 24, false, 4}, {"lb", 25, false, 1},
	{"sd", 26, true, 8}, {"sw", 27, true, 4}, {"sb", 28, true, 1},
}

func kindOf(op int) (kind, bool) {
	for _, k := range kinds {
		if k.op == op {
			return k, true
		}
	}
	return kind{}, false
}

// lowest tells a number's lowest bytes without a sign.
func lowest(v uint64, width int) uint64 {
	switch width {
	case 1:
		return uint64(uint8(v))
	case 4:
		return uint64(uint32(v))
	}
	return v
}

// loaded tells what a load of a number's lowest bytes brings.
func loaded(v uint64, width int) uint64 {
	switch width {
	case 1:
		return uint64(uint8(v))
	case 4:
		return uint64(int64(int32(uint32(v))))
	case 8:
		return v
	}
	return 0
}

// registers are all different, X[0] among them, which is not 0.
func registers() api.Regs {
	r := api.Regs{Pc: 0x1000, Mode: api.User}
	for i := range r.X {
		r.X[i] = uint64(i+1)*0x1111111111111111 ^ 0x80808080
	}
	return r
}

// wordOf tells the word of an instruction of a kind, which reaches rs1 + imm with the register reg.
func wordOf(t *testing.T, k kind, reg, rs1, imm int) uint32 {
	t.Helper()
	x := api.Insn{Op: k.op, Rd: reg, Rs1: rs1, Imm: imm}
	if k.write {
		x.Rd, x.Rs2 = 0, reg
	}
	return encoded(t, x)
}

func encoded(t *testing.T, x api.Insn) uint32 {
	t.Helper()
	w, e := insn.Encode(x)
	if e != api.OK {
		t.Fatalf("Encode(%+v) = %d", x, int(e))
	}
	return w
}

func wantAccess(t *testing.T, w uint32, r api.Regs, want Access) {
	t.Helper()
	if a, e := Decode(w, r); a != want || e != api.OK {
		t.Errorf("Decode(%#x, %x) = %+v, %d; want %+v, 0", w, r.X, a, int(e), want)
	}
}

func wantNoAccess(t *testing.T, w uint32, r api.Regs) {
	t.Helper()
	if a, e := Decode(w, r); a != (Access{}) || e != api.ErrForm {
		t.Errorf("Decode(%#x) = %+v, %d; want none, %d", w, a, int(e), int(api.ErrForm))
	}
}

func wantRegs(t *testing.T, what string, got, want api.Regs) {
	t.Helper()
	if got != want {
		t.Errorf("%s:\n got %x\nwant %x", what, got, want)
	}
}

func TestExample(t *testing.T) {
	w := encoded(t, api.Insn{Op: insn.Sw, Rs1: 1, Rs2: 3})
	r := api.Regs{}
	r.X[3] = 1<<32 + 5
	wantAccess(t, w, r, Access{Write: true, Width: 4, Reg: 3, Value: 5})
	if trap := Fault(api.Trap{Cause: api.GuestLoad, Value: 8, Guest: 9}); trap != (api.Trap{Cause: 5, Value: 8}) {
		t.Errorf("Fault = %+v", trap)
	}
}

// P19.1: the operations' numbers are insn's.
func TestKindsAreOperations(t *testing.T) {
	for i, op := range []int{insn.Ld, insn.Lw, insn.Lb, insn.Sd, insn.Sw, insn.Sb} {
		if kinds[i].op != op {
			t.Errorf("%s has the number %d; want %d", kinds[i].name, op, kinds[i].op)
		}
	}
}

// P19.1: each operation, with fields at the edges of what it may have.
func TestDecodeOfEachOperation(t *testing.T) {
	r := registers()
	for op := 1; op <= 48; op++ {
		tried := 0
		for _, x := range samples(op) {
			w, e := insn.Encode(x)
			if e != api.OK {
				continue
			}
			tried++
			k, is := kindOf(op)
			switch {
			case !is:
				wantNoAccess(t, w, r)
			case k.write:
				v := r.X[x.Rs2]
				if x.Rs2 == 0 {
					v = 0
				}
				wantAccess(t, w, r, Access{Write: true, Width: k.width, Reg: x.Rs2, Value: lowest(v, k.width)})
			default:
				wantAccess(t, w, r, Access{Width: k.width, Reg: x.Rd})
			}
		}
		if tried == 0 {
			t.Errorf("no instruction of the operation %d was tried", op)
		}
	}
}

// samples are instructions of an operation, most of which it may not have.
func samples(op int) []api.Insn {
	var list []api.Insn
	ends := []int{0, 1, 7, 15}
	for _, rd := range ends {
		for _, rs1 := range ends {
			for _, rs2 := range ends {
				for _, imm := range []int{-131072, -8192, -1, 0, 1, 8, 63, 4095, 8191, 131071} {
					list = append(list, api.Insn{Op: op, Rd: rd, Rs1: rs1, Rs2: rs2, Imm: imm})
				}
			}
		}
	}
	return list
}

// P19.1: each register as rd and as rs2, and beside each other one as rs1.
func TestDecodeOfEachRegister(t *testing.T) {
	r := registers()
	for _, k := range kinds {
		for reg := range 16 {
			want := Access{Write: k.write, Width: k.width, Reg: reg}
			if k.write && reg != 0 {
				want.Value = lowest(r.X[reg], k.width)
			}
			for rs1 := range 16 {
				wantAccess(t, wordOf(t, k, reg, rs1, 0), r, want)
				wantAccess(t, wordOf(t, k, reg, rs1, -8192), r, want)
				wantAccess(t, wordOf(t, k, reg, rs1, 8191), r, want)
			}
		}
	}
}

// P19.1: no more than the lowest bytes, and no sign.
func TestDecodeValue(t *testing.T) {
	for _, c := range []struct{ v, eight, four, one uint64 }{
		{0, 0, 0, 0},
		{0x80, 0x80, 0x80, 0x80},
		{0xff, 0xff, 0xff, 0xff},
		{0x100, 0x100, 0x100, 0},
		{0x80000000, 0x80000000, 0x80000000, 0},
		{0xffffffff, 0xffffffff, 0xffffffff, 0xff},
		{0x100000005, 0x100000005, 5, 5},
		{0x8877665544332211, 0x8877665544332211, 0x44332211, 0x11},
		{0x1122334485667788, 0x1122334485667788, 0x85667788, 0x88},
		{math.MaxUint64, math.MaxUint64, 0xffffffff, 0xff},
	} {
		for reg := 1; reg <= 15; reg++ {
			var r api.Regs
			r.X[reg] = c.v
			for k, want := range map[kind]uint64{kinds[3]: c.eight, kinds[4]: c.four, kinds[5]: c.one} {
				wantAccess(t, wordOf(t, k, reg, 1, 0), r, Access{Write: true, Width: k.width, Reg: reg, Value: want})
			}
		}
	}
	for _, k := range kinds[3:] {
		for _, v := range edgeNumbers {
			r := registers()
			r.X[9] = v
			wantAccess(t, wordOf(t, k, 9, 2, 16), r, Access{Write: true, Width: k.width, Reg: 9, Value: lowest(v, k.width)})
		}
	}
}

// P19.1: X[0] is 0, whatever stands there.
func TestDecodeStoresZero(t *testing.T) {
	for _, k := range kinds[3:] {
		for _, v := range edgeNumbers {
			r := registers()
			r.X[0] = v
			wantAccess(t, wordOf(t, k, 0, 3, 8), r, Access{Write: true, Width: k.width})
		}
	}
}

// P19.1: of a load no register is told, and of a store rs2 alone: neither Pc nor Mode, nor any other register, is asked.
func TestDecodeAsksNothingElse(t *testing.T) {
	for _, k := range kinds {
		w := wordOf(t, k, 5, 6, 24)
		want := Access{Write: k.write, Width: k.width, Reg: 5}
		if k.write {
			want.Value = 0x7b
		}
		for _, v := range edgeNumbers {
			for _, mode := range edgeInts {
				r := api.Regs{Pc: v, Mode: mode}
				for i := range r.X {
					r.X[i] = v
				}
				if k.write {
					r.X[5] = 0x7b
				}
				wantAccess(t, w, r, want)
			}
		}
	}
}

// P19.1: words that are no instruction.
func TestDecodeOfWordsThatAreNone(t *testing.T) {
	r := registers()
	none := []uint32{0, 1, math.MaxUint32, math.MaxUint32 - 1}
	for op := uint32(49); op < 64; op++ {
		none = append(none, op<<26, op<<26|1, op<<26|5<<22|1<<18, op<<26|1<<26-1)
	}
	for rest := uint32(1); rest < 1<<26; rest <<= 1 {
		none = append(none, rest)
	}
	for _, k := range kinds {
		w := wordOf(t, k, 3, 1, 8)
		for bit := range 4 {
			if k.write {
				none = append(none, w|1<<(22+bit)) // rd, which stores do not have
			} else {
				none = append(none, w|1<<(14+bit)) // rs2, which loads do not have
			}
		}
	}
	for _, w := range none {
		if _, e := insn.Decode(w); e == api.OK {
			t.Errorf("%#x is an instruction", w)
		}
		wantNoAccess(t, w, r)
		wantNoAccess(t, w, api.Regs{})
	}
}

// P19.1: words all over the range are what insn says.
func TestDecodeOfAnyWord(t *testing.T) {
	r := registers()
	seed := uint64(19)
	found := 0
	for range 200000 {
		w := uint32(next(&seed))
		if next(&seed)%2 == 0 { // else few words would be loads or stores
			w = w&(1<<26-1) | uint32(23+next(&seed)%6)<<26
		}
		if next(&seed)%2 == 0 {
			w &^= 15 << 22
		}
		if next(&seed)%2 == 0 {
			w &^= 15 << 14
		}
		x, e := insn.Decode(w)
		k, is := kindOf(x.Op)
		if e != api.OK || !is {
			wantNoAccess(t, w, r)
			continue
		}
		found++
		want := Access{Write: k.write, Width: k.width, Reg: x.Rd}
		if k.write {
			want.Reg = x.Rs2
		}
		if k.write && x.Rs2 != 0 {
			want.Value = lowest(r.X[x.Rs2], k.width)
		}
		wantAccess(t, w, r, want)
	}
	if found < 1000 {
		t.Errorf("only %d loads and stores were tried", found)
	}
}

// next tells the next number of a fixed row.
func next(seed *uint64) uint64 {
	*seed = *seed*6364136223846793005 + 1442695040888963407
	return *seed>>33 ^ *seed>>17
}

// P19.2: nothing but Pc changes.
func TestSkip(t *testing.T) {
	for _, c := range ends() {
		for _, mode := range edgeInts {
			r := registers()
			r.Pc, r.Mode = c.pc, mode
			want := r
			want.Pc = c.behind
			wantRegs(t, "Skip", Skip(r), want)
		}
	}
	wantRegs(t, "Skip of zeros", Skip(api.Regs{}), api.Regs{Pc: 4})
}

// end is a Pc, and the one behind it.
type end struct{ pc, behind uint64 }

func ends() []end {
	return []end{
		{0, 4}, {1, 5}, {2, 6}, {4, 8}, {0xfffffffc, 1 << 32}, {0xffffffff, 1<<32 + 3}, {1<<63 - 4, 1 << 63}, {1<<63 - 1, 1<<63 + 3}, {1 << 63, 1<<63 + 4},
		{math.MaxUint64 - 7, math.MaxUint64 - 3}, {math.MaxUint64 - 4, math.MaxUint64}, {math.MaxUint64 - 3, 0}, {math.MaxUint64 - 2, 1}, {math.MaxUint64, 3},
	}
}

// P19.2: the bytes that are loaded, with the sign of four, in the register that is named.
func TestFinishOfLoads(t *testing.T) {
	for _, c := range []struct{ v, eight, four, one uint64 }{
		{0, 0, 0, 0},
		{0x7f, 0x7f, 0x7f, 0x7f},
		{0x80, 0x80, 0x80, 0x80},
		{0xff, 0xff, 0xff, 0xff},
		{0x100, 0x100, 0x100, 0},
		{0x7fffffff, 0x7fffffff, 0x7fffffff, 0xff},
		{0x80000000, 0x80000000, 0xffffffff80000000, 0},
		{0xffffffff, 0xffffffff, math.MaxUint64, 0xff},
		{0x100000005, 0x100000005, 5, 5},
		{0xffffffff00000001, 0xffffffff00000001, 1, 1},
		{0x8877665544332211, 0x8877665544332211, 0x44332211, 0x11},
		{0x1122334485667788, 0x1122334485667788, 0xffffffff85667788, 0x88},
		{math.MaxUint64, math.MaxUint64, math.MaxUint64, 0xff},
	} {
		for width, want := range map[int]uint64{8: c.eight, 4: c.four, 1: c.one} {
			for reg := 1; reg <= 15; reg++ {
				r := registers()
				behind := r
				behind.Pc = 0x1004
				behind.X[reg] = want
				wantRegs(t, "Finish", Finish(r, Access{Width: width, Reg: reg}, c.v), behind)
			}
		}
	}
}

// P19.2: accesses of any fields, those that Decode never tells too.
func TestFinishOfAnyAccess(t *testing.T) {
	for _, write := range []bool{false, true} {
		for _, width := range edgeInts {
			for _, reg := range edgeInts {
				for i, v := range edgeNumbers {
					r := registers()
					want := r
					want.Pc = 0x1004
					if !write && reg >= 1 && reg <= 15 {
						want.X[reg] = loaded(v, width)
					}
					a := Access{Write: write, Width: width, Reg: reg, Value: edgeNumbers[len(edgeNumbers)-1-i]}
					wantRegs(t, "Finish", Finish(r, a, v), want)
				}
			}
		}
	}
}

// P19.2: of another width than 1, 4, 8 the register is 0, whatever it was.
func TestFinishOfOtherWidths(t *testing.T) {
	for width := -300; width <= 300; width++ {
		r := registers()
		want := r
		want.Pc = 0x1004
		want.X[6] = loaded(math.MaxUint64, width)
		wantRegs(t, "Finish", Finish(r, Access{Width: width, Reg: 6}, math.MaxUint64), want)
	}
}

// P19.2: Pc grows modulo 2^64, whatever the access; Mode stays.
func TestFinishPc(t *testing.T) {
	for _, c := range ends() {
		for _, mode := range edgeInts {
			for _, a := range []Access{{}, {Width: 8, Reg: 2}, {Width: 4, Reg: 16}, {Width: 3, Reg: 2}, {Write: true, Width: 1, Reg: 2, Value: 7}, {Write: true, Reg: -1}} {
				r := registers()
				r.Pc, r.Mode, r.X[2] = c.pc, mode, 0
				want := r
				want.Pc = c.behind
				wantRegs(t, "Finish", Finish(r, a, 0), want)
			}
		}
	}
}

// P19.3: what the second stage refuses becomes a fault of the access.
func TestFault(t *testing.T) {
	becomes := map[int]int{20: 1, 21: 5, 23: 7}
	if api.GuestFetch != 20 || api.GuestLoad != 21 || api.GuestStore != 23 {
		t.Error("the causes of the second stage are others")
	}
	causes := append([]int{-20, -21, -23, 1<<32 + 20, 1<<32 + 21, 1<<32 + 23, 256 + 21, api.IrqSoft, api.IrqTimer, api.IrqDevice, 1<<62 + 20, 1<<62 + 21, 1<<62 + 23}, edgeInts...)
	for cause := range 64 {
		causes = append(causes, cause)
	}
	for _, cause := range causes {
		want, other := becomes[cause]
		if !other {
			want = cause
		}
		for _, value := range edgeNumbers {
			for _, guest := range edgeNumbers {
				if trap := Fault(api.Trap{Cause: cause, Value: value, Guest: guest}); trap != (api.Trap{Cause: want, Value: value}) {
					t.Errorf("Fault({%d, %#x, %#x}) = %+v; want {%d, %#x, 0}", cause, value, guest, trap, want, value)
				}
			}
		}
	}
}

// P19.3: what became a fault stays as it is.
func TestFaultOfFault(t *testing.T) {
	for _, cause := range []int{api.GuestFetch, api.GuestLoad, api.GuestStore, api.FaultLoad, api.CauseIllegal} {
		once := Fault(api.Trap{Cause: cause, Value: 5, Guest: 6})
		if twice := Fault(once); twice != once {
			t.Errorf("Fault(%+v) = %+v", once, twice)
		}
	}
}

// P19.4: the number and the four arguments, and no register beside them.
func TestCall(t *testing.T) {
	r := registers()
	n, args := Call(r)
	if n != r.X[10] || args != [4]uint64{r.X[11], r.X[12], r.X[13], r.X[14]} {
		t.Errorf("Call(%x) = %#x, %#x", r.X, n, args)
	}
	for i, v := range edgeNumbers {
		other := edgeNumbers[len(edgeNumbers)-1-i]
		for at := range 5 {
			r := api.Regs{Pc: other, Mode: edgeInts[i]}
			for j := range r.X {
				r.X[j] = other
			}
			want := [5]uint64{other, other, other, other, other}
			r.X[10+at], want[at] = v, v
			n, args := Call(r)
			if n != want[0] || args != [4]uint64(want[1:]) {
				t.Errorf("Call(%x) = %#x, %#x; want %#x", r.X, n, args, want)
			}
		}
	}
	if n, args := Call(api.Regs{}); n != 0 || args != [4]uint64{} {
		t.Errorf("Call of zeros = %d, %d", n, args)
	}
}

// P19.4: the error's number, and the value where there is no error.
func TestAnswer(t *testing.T) {
	for e, n := range errorsByNumber() {
		for _, v := range edgeNumbers {
			for _, c := range ends() {
				r := registers()
				r.Pc, r.Mode = c.pc, api.Kernel
				want := r
				want.Pc, want.X[10], want.X[11] = c.behind, n, 0
				if n == 0 {
					want.X[11] = v
				}
				wantRegs(t, "Answer", Answer(r, e, v), want)
			}
		}
	}
}

// errorsByNumber are the errors with their numbers, and some that are none.
func errorsByNumber() map[api.Errno]uint64 {
	return map[api.Errno]uint64{
		api.OK: 0, api.ErrNil: 1, api.ErrArg: 2, api.ErrBig: 3,
		api.ErrForm: 10, api.ErrAlign: 11, api.ErrBound: 12, api.ErrThere: 13, api.ErrNone: 14, api.ErrOwner: 15, api.ErrFault: 16,
		api.ErrBusy: 17, api.ErrFull: 18, api.ErrQuota: 19, api.ErrMemory: 20, api.ErrState: 21, api.ErrRing: 22, api.ErrLine: 50,
		4: 4, 9: 9, 23: 23, 49: 49, 51: 51, 256: 256, 1 << 32: 1 << 32, math.MaxInt: 1<<63 - 1,
		-1: math.MaxUint64, -14: math.MaxUint64 - 13, -1 << 32: 0xffffffff00000000, math.MinInt: 1 << 63,
	}
}

// P19.4: Mode stays, whatever it is.
func TestAnswerMode(t *testing.T) {
	for _, mode := range edgeInts {
		for _, e := range []api.Errno{api.OK, api.ErrNone, -1} {
			r := registers()
			r.Mode = mode
			if got := Answer(r, e, 1).Mode; got != mode {
				t.Errorf("Answer: Mode %d; want %d", got, mode)
			}
		}
	}
}

// P19.4: what is asked again behind an answer is the error's number.
func TestCallBehindAnswer(t *testing.T) {
	r := registers()
	n, args := Call(Answer(r, api.OK, 7))
	if n != 0 || args != [4]uint64{7, r.X[12], r.X[13], r.X[14]} {
		t.Errorf("Call behind an answer = %d, %#x", n, args)
	}
	n, args = Call(Answer(r, api.ErrQuota, 7))
	if n != 19 || args != [4]uint64{0, r.X[12], r.X[13], r.X[14]} {
		t.Errorf("Call behind an error = %d, %#x", n, args)
	}
}

// Registers come in as values: whoever has them sees no change.
func TestRegistersStay(t *testing.T) {
	r := registers()
	Skip(r)
	Finish(r, Access{Width: 8, Reg: 3}, 1)
	Answer(r, api.OK, 1)
	Call(r)
	Decode(wordOf(t, kinds[3], 0, 0, 0), r)
	wantRegs(t, "the registers", r, registers())
}
