package emulate

import (
	"math"
	"testing"

	"palisade/api"
	"palisade/csr"
	"palisade/entry"
	"palisade/hart"
	"palisade/mem"
	"palisade/word"
)

// device is where the device lies: eight numbers of eight bytes, and what is behind them.
const device = 128

// bus is a memory at whose addresses programs are; where it has a device, the second stage refuses its place.
type bus struct {
	*mem.Memory
	hasDevice bool
}

func (b bus) Translate(_ int, at uint64, access int, _ bool) (uint64, api.Trap) {
	if !b.hasDevice || at < device {
		return at, api.Trap{}
	}
	if access == entry.Store {
		return 0, api.Trap{Cause: api.GuestStore, Value: at, Guest: at}
	}
	return 0, api.Trap{Cause: api.GuestLoad, Value: at, Guest: at}
}

func (b bus) Hold(uint64) {}

func (b bus) Held(uint64) bool { return false }

// newMemory makes one of a frame with a word at 0 and these bytes at the device's place.
func newMemory(t *testing.T, w uint32, bytes []byte) *mem.Memory {
	t.Helper()
	m, e := mem.New(1)
	if e != api.OK {
		t.Fatalf("mem.New = %d", int(e))
	}
	if e := m.Store(0, 4, uint64(w)); e != api.OK {
		t.Fatalf("Store = %d", int(e))
	}
	if e := m.Put(device, bytes); e != api.OK {
		t.Fatalf("Put = %d", int(e))
	}
	return m
}

// stepped tells the registers of a hart behind a step with a memory alone.
func stepped(t *testing.T, m *mem.Memory, r api.Regs) api.Regs {
	t.Helper()
	result, e := hart.Step(&r, csr.New(0), bus{Memory: m})
	if result != (hart.Result{Kind: hart.Done}) || e != api.OK {
		t.Fatalf("Step = %+v, %d", result, int(e))
	}
	return r
}

// refused lets a hart step whose second stage refuses, and tells the place that it asked for.
func refused(t *testing.T, m *mem.Memory, r api.Regs) (place uint64, write bool) {
	t.Helper()
	was := r
	result, e := hart.Step(&r, csr.New(0), bus{Memory: m, hasDevice: true})
	if result.Kind != hart.Beyond || e != api.OK {
		t.Fatalf("Step = %+v, %d; want it refused", result, int(e))
	}
	wantRegs(t, "a step that is refused", r, was)
	return result.Trap.Guest, result.Trap.Cause == api.GuestStore
}

// emulated does in the place of the instruction at Pc, of a device that is the memory's bytes; above: what stands in a number above the bytes that are loaded.
func emulated(t *testing.T, m *mem.Memory, r api.Regs, above uint64) api.Regs {
	t.Helper()
	place, write := refused(t, m, r)
	w, e := m.Load(r.Pc, 4)
	if e != api.OK {
		t.Fatalf("Load(%#x) = %d", r.Pc, int(e))
	}
	a, e := Decode(uint32(w), r)
	if e != api.OK || a.Write != write {
		t.Fatalf("Decode(%#x) = %+v, %d", uint32(w), a, int(e))
	}
	if a.Write {
		if e := m.Put(place, word.Store(a.Value, a.Width)); e != api.OK {
			t.Fatalf("Put(%#x) = %d", place, int(e))
		}
		return Finish(r, a, above)
	}
	bytes, e := m.Bytes(place, a.Width)
	if e != api.OK {
		t.Fatalf("Bytes(%#x) = %d", place, int(e))
	}
	return Finish(r, a, numberOf(bytes)|above<<(8*a.Width))
}

// numberOf tells the number without a sign of up to eight bytes, the lowest first.
func numberOf(bytes []byte) uint64 {
	var v uint64
	for i, b := range bytes {
		v |= uint64(b) << (8 * i)
	}
	return v
}

// registersAt are those of a hart that reaches the device by x1.
func registersAt(mode int) api.Regs {
	r := registers()
	r.X[0], r.X[1], r.Pc, r.Mode = 0, device, 0, mode
	return r
}

// P19.5: a load of a device's bytes, whatever stands above them, brings what a load of memory with these bytes brings.
func TestLoadsAreAsOfMemory(t *testing.T) {
	for _, k := range kinds[:3] {
		for reg := range 16 {
			w := wordOf(t, k, reg, 1, 8)
			for _, v := range edgeNumbers {
				m := newMemory(t, w, append(make([]byte, 8), word.Store(v, 8)...))
				r := registersAt(api.User)
				want := stepped(t, m, r)
				for _, above := range []uint64{0, 1, math.MaxUint64, v} {
					wantRegs(t, k.name, emulated(t, m, r, above), want)
				}
			}
		}
	}
}

// P19.5: each place that an instruction reaches of a row of bytes, each of which has its topmost bit once set and once not.
func TestLoadsOfEachPlace(t *testing.T) {
	for _, salt := range []byte{0, 0x80, 0x55, 0xff} {
		bytes := make([]byte, 32)
		for i := range bytes {
			bytes[i] = byte(i*37) ^ salt
		}
		for _, k := range kinds[:3] {
			for imm := 0; imm < len(bytes); imm += k.width {
				m := newMemory(t, wordOf(t, k, 7, 1, imm), bytes)
				r := registersAt(api.Kernel)
				wantRegs(t, k.name, emulated(t, m, r, math.MaxUint64), stepped(t, m, r))
			}
		}
	}
}

// P19.1, P19.5: what Decode tells of a store is what a store puts into memory, and nothing beside it.
func TestStoresAreAsOfMemory(t *testing.T) {
	for _, k := range kinds[3:] {
		for reg := range 16 {
			for _, v := range edgeNumbers {
				w := wordOf(t, k, reg, 1, 8)
				filled := []byte{1, 2, 3, 4, 5, 6, 7, 8, 9, 10, 11, 12, 13, 14, 15, 16, 17, 18, 19, 20, 21, 22, 23, 24}
				memory, other := newMemory(t, w, filled), newMemory(t, w, filled)
				r := registersAt(api.User)
				if reg > 1 {
					r.X[reg] = v
				}
				want := stepped(t, memory, r)
				wantRegs(t, k.name, emulated(t, other, r, v), want)
				if !memory.Same(other) {
					t.Errorf("%s of x%d = %#x: other bytes than a store's", k.name, reg, r.X[reg])
				}
			}
		}
	}
}

// P19.5: what is stored into a device and loaded again is what memory has.
func TestRunsAreAsOfMemory(t *testing.T) {
	seed := uint64(5)
	for range 200 {
		alone := newMemory(t, 0, nil)
		layProgram(t, alone, &seed)
		other := alone.Clone()
		r := registersAt(int(next(&seed) % 2))
		s := r
		for range 32 {
			r = stepped(t, alone, r)
			s = emulated(t, other, s, next(&seed))
			wantRegs(t, "a run", s, r)
			if !alone.Same(other) {
				t.Fatal("a run: the bytes differ")
			}
		}
	}
}

// layProgram lays 32 loads and stores of a device's 64 bytes from 0 on; x1 stays as it is.
func layProgram(t *testing.T, m *mem.Memory, seed *uint64) {
	t.Helper()
	for i := range 32 {
		k := kinds[next(seed)%6]
		reg := int(next(seed) % 16)
		if reg == 1 && !k.write {
			reg = 0
		}
		imm := int(next(seed)%64) / k.width * k.width
		if e := m.Store(uint64(4*i), 4, uint64(wordOf(t, k, reg, 1, imm))); e != api.OK {
			t.Fatalf("Store = %d", int(e))
		}
	}
	for at := uint64(device); at < 256; at += 4 {
		m.Store(at, 4, next(seed))
	}
}
