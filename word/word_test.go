package word

import (
	"bytes"
	"math"
	"math/big"
	"testing"
)

// Numbers near every power of two, where carries, signs and the ends of types are.
func edgeUints() []uint64 {
	list := []uint64{0, 7, 10, 0x0123456789abcdef, 0xfedcba9876543210, 0x5555555555555555, 0xaaaaaaaaaaaaaaaa}
	for i := range 64 {
		p := uint64(1) << i
		list = append(list, p-1, p, p+1, -p)
	}
	return list
}

func edgeInts() []int {
	var list []int
	for _, v := range edgeUints() {
		list = append(list, int(v))
	}
	return list
}

// Places and lengths: all that a word of 64 bits could have, those just beyond, and the ends of int.
func places() []int {
	list := []int{math.MinInt, math.MinInt + 1, math.MinInt32, math.MaxInt32, math.MaxInt - 31, math.MaxInt - 1, math.MaxInt}
	for i := -70; i <= 70; i++ {
		list = append(list, i)
	}
	return list
}

func edgeWords() []uint32 {
	list := []uint32{0, 0xf0, 0x12345678, 0x89abcdef, 0x55555555, 0xaaaaaaaa, math.MaxUint32}
	for i := range 32 {
		list = append(list, 1<<i, ^uint32(1<<i))
	}
	return list
}

func hasField(at, n int) bool {
	return at >= 0 && at <= 31 && n >= 1 && n <= 32 && at+n <= 32
}

// Bit by bit, so that it shares nothing with the program's way.
func fieldByBits(w uint32, at, n int) int {
	v := 0
	for i := n - 1; i >= 0; i-- {
		v = v*2 + int(w>>(at+i)&1)
	}
	return v
}

func placeByBits(w uint32, v, at, n int) uint32 {
	for i := range n {
		bit := uint32(1) << (at + i)
		if v>>i&1 == 1 {
			w |= bit
		} else {
			w &^= bit
		}
	}
	return w
}

// P1.1

func TestFieldExamples(t *testing.T) {
	for _, c := range []struct {
		w     uint32
		at, n int
		want  int
	}{
		{0xf0, 4, 4, 15},
		{0xf0, 0, 4, 0},
		{0x12345678, 8, 8, 0x56},
		{math.MaxUint32, 0, 32, math.MaxUint32},
		{math.MaxUint32, 0, 33, 0},
		{math.MaxUint32, 0, 0, 0},
		{math.MaxUint32, 0, -1, 0},
		{math.MaxUint32, -1, 4, 0},
		{math.MaxUint32, 31, 1, 1},
		{math.MaxUint32, 31, 2, 0},
		{math.MaxUint32, 32, 1, 0},
		{math.MaxUint32, 32, 0, 0},
		{math.MaxUint32, 1, 31, math.MaxInt32},
		{math.MaxUint32, 1, 32, 0},
		{math.MaxUint32, math.MaxInt, math.MaxInt, 0},
		{math.MaxUint32, math.MinInt, math.MinInt, 0},
		{math.MaxUint32, 31, math.MaxInt, 0},
		{math.MaxUint32, math.MaxInt, 32, 0},
		{math.MaxUint32, math.MinInt, 1, 0},
	} {
		if got := Field(c.w, c.at, c.n); got != c.want {
			t.Errorf("Field(%#x, %d, %d) = %#x, want %#x", c.w, c.at, c.n, got, c.want)
		}
	}
}

func TestFieldEverywhere(t *testing.T) {
	for _, w := range edgeWords() {
		for _, at := range places() {
			for _, n := range places() {
				want := 0
				if hasField(at, n) {
					want = fieldByBits(w, at, n)
				}
				if got := Field(w, at, n); got != want {
					t.Fatalf("Field(%#x, %d, %d) = %#x, want %#x", w, at, n, got, want)
				}
			}
		}
	}
}

func TestPlaceExamples(t *testing.T) {
	for _, c := range []struct {
		w        uint32
		v, at, n int
		want     uint32
	}{
		{0, 5, 4, 4, 0x50},
		{0xffffffff, 5, 4, 4, 0xffffff5f},
		{0x12345678, 0xfab, 8, 8, 0x1234ab78},
		{0x12345678, -1, 0, 32, 0xffffffff},
		{0x12345678, math.MinInt, 0, 32, 0},
		{0x12345678, math.MaxInt, 28, 4, 0xf2345678},
		{7, 1, 31, 1, 0x80000007},
		{7, -1, 31, 2, 7},
		{7, -1, 32, 1, 7},
		{7, -1, -1, 1, 7},
		{7, -1, 0, 0, 7},
		{7, -1, 0, 33, 7},
		{7, -1, 0, -1, 7},
		{7, -1, 31, math.MaxInt, 7},
		{7, -1, math.MaxInt, math.MaxInt, 7},
		{7, -1, math.MinInt, math.MinInt, 7},
	} {
		if got := Place(c.w, c.v, c.at, c.n); got != c.want {
			t.Errorf("Place(%#x, %#x, %d, %d) = %#x, want %#x", c.w, c.v, c.at, c.n, got, c.want)
		}
	}
}

func TestPlaceEverywhere(t *testing.T) {
	values := []int{0, 1, 5, -1, -2, 0x5a5a5a5a, 1 << 32, math.MinInt, math.MaxInt}
	for _, w := range edgeWords() {
		for _, v := range values {
			for _, at := range places() {
				for _, n := range places() {
					want := w
					if hasField(at, n) {
						want = placeByBits(w, v, at, n)
					}
					if got := Place(w, v, at, n); got != want {
						t.Fatalf("Place(%#x, %#x, %d, %d) = %#x, want %#x", w, v, at, n, got, want)
					}
				}
			}
		}
	}
}

// P1.2

func power(n int) *big.Int { return new(big.Int).Lsh(big.NewInt(1), uint(n)) }

func TestSignExamples(t *testing.T) {
	for _, c := range []struct{ v, n, want int }{
		{7, 3, -1},
		{3, 3, 3},
		{4, 3, -4},
		{8, 3, 0},
		{15, 3, -1},
		{-1, 3, -1},
		{-5, 3, 3},
		{1, 1, -1},
		{2, 1, 0},
		{-1, 63, -1},
		{math.MaxInt, 63, -1},
		{math.MinInt, 63, 0},
		{1 << 62, 63, -1 << 62},
		{1<<62 - 1, 63, 1<<62 - 1},
		{-1, 0, 0},
		{-1, 64, 0},
		{-1, 65, 0},
		{-1, -1, 0},
		{-1, math.MinInt, 0},
		{-1, math.MaxInt, 0},
	} {
		if got := Sign(c.v, c.n); got != c.want {
			t.Errorf("Sign(%d, %d) = %d, want %d", c.v, c.n, got, c.want)
		}
	}
}

func TestSignEverywhere(t *testing.T) {
	for _, n := range places() {
		for _, v := range edgeInts() {
			want := int64(0)
			if n >= 1 && n <= 63 {
				low := new(big.Int).Mod(big.NewInt(int64(v)), power(n))
				if low.Cmp(power(n-1)) >= 0 {
					low.Sub(low, power(n))
				}
				want = low.Int64()
			}
			if got := Sign(v, n); int64(got) != want {
				t.Fatalf("Sign(%d, %d) = %d, want %d", v, n, got, want)
			}
		}
	}
}

func TestFitsExamples(t *testing.T) {
	for _, c := range []struct {
		v, n int
		want bool
	}{
		{3, 3, true},
		{4, 3, false},
		{-4, 3, true},
		{-5, 3, false},
		{0, 1, true},
		{-1, 1, true},
		{1, 1, false},
		{-2, 1, false},
		{1<<62 - 1, 63, true},
		{1 << 62, 63, false},
		{-1 << 62, 63, true},
		{-1<<62 - 1, 63, false},
		{math.MaxInt, 63, false},
		{math.MinInt, 63, false},
		{0, 0, false},
		{0, 64, false},
		{0, -1, false},
		{0, math.MinInt, false},
		{0, math.MaxInt, false},
	} {
		if got := Fits(c.v, c.n); got != c.want {
			t.Errorf("Fits(%d, %d) = %v", c.v, c.n, got)
		}
	}
}

func TestFitsEverywhere(t *testing.T) {
	for _, n := range places() {
		for _, v := range edgeInts() {
			want := false
			if n >= 1 && n <= 63 {
				b := big.NewInt(int64(v))
				want = b.Cmp(new(big.Int).Neg(power(n-1))) >= 0 && b.Cmp(power(n-1)) < 0
			}
			if got := Fits(v, n); got != want {
				t.Fatalf("Fits(%d, %d) = %v", v, n, got)
			}
		}
	}
}

// P1.3

func TestDivideExamples(t *testing.T) {
	const top = math.MaxUint64
	for _, c := range []struct{ a, b, q, r uint64 }{
		{7, 2, 3, 1},
		{7, 7, 1, 0},
		{6, 7, 0, 6},
		{0, 7, 0, 0},
		{7, 0, top, 7},
		{0, 0, top, 0},
		{top, 0, top, top},
		{top, 1, top, 0},
		{top, top, 1, 0},
		{top, 2, 1<<63 - 1, 1},
		{1 << 63, top, 0, 1 << 63},
		{1 << 63, 1, 1 << 63, 0},
	} {
		if q, r := Divide(c.a, c.b); q != c.q || r != c.r {
			t.Errorf("Divide(%d, %d) = %d, %d, want %d, %d", c.a, c.b, q, r, c.q, c.r)
		}
	}
}

// Step by step, so that it shares nothing with the program's way.
func shiftBySteps(kind int, a uint64, steps uint64) uint64 {
	for range steps {
		switch kind {
		case 0:
			a += a
		case 1:
			a /= 2
		case 2:
			a = a/2 | a&(1<<63)
		}
	}
	return a
}

func TestShiftExamples(t *testing.T) {
	const top = math.MaxUint64
	for _, c := range []struct {
		kind        int
		a, by, want uint64
	}{
		{0, 1, 63, 1 << 63},
		{0, 3, 63, 1 << 63},
		{0, 3, 64, 3},
		{0, 1, 65, 2},
		{1, 1 << 63, 63, 1},
		{1, 1 << 63, 64, 1 << 63},
		{1, top, 1, top >> 1},
		{2, 1 << 63, 63, top},
		{2, 1 << 63, 1, 3 << 62},
		{2, 1 << 63, 64, 1 << 63},
		{2, 1<<63 - 1, 63, 0},
		{2, 1<<63 - 1, 1, 1<<62 - 1},
		{0, 5, top, 1 << 63},
		{1, top, top, 1},
		{2, top, 0, top},
		{3, 5, 1, 5},
		{-1, 5, 1, 5},
		{math.MinInt, top, 7, top},
		{math.MaxInt, top, 7, top},
	} {
		if got := Shift(c.kind, c.a, c.by); got != c.want {
			t.Errorf("Shift(%d, %#x, %d) = %#x, want %#x", c.kind, c.a, c.by, got, c.want)
		}
	}
}

func TestShiftEverywhere(t *testing.T) {
	kinds := []int{math.MinInt, -2, -1, 0, 1, 2, 3, 4, 64, math.MaxInt}
	for _, kind := range kinds {
		for _, a := range edgeUints() {
			for by := range uint64(200) {
				want := shiftBySteps(kind, a, by%64)
				for _, far := range []uint64{by, by + 1<<32, by + 1<<63, by%64 - 64} {
					if got := Shift(kind, a, far); got != want {
						t.Fatalf("Shift(%d, %#x, %d) = %#x, want %#x", kind, a, far, got, want)
					}
				}
			}
		}
	}
}

func TestLessExamples(t *testing.T) {
	const top = math.MaxUint64
	for _, c := range []struct {
		a, b   uint64
		signed bool
		want   bool
	}{
		{1, 2, false, true},
		{2, 1, false, false},
		{2, 2, false, false},
		{1, 2, true, true},
		{2, 1, true, false},
		{2, 2, true, false},
		{1 << 63, 0, true, true},
		{1 << 63, 0, false, false},
		{0, 1 << 63, true, false},
		{0, 1 << 63, false, true},
		{top, 0, true, true},
		{top, 0, false, false},
		{top, top, true, false},
		{top, top, false, false},
		{1 << 63, 1<<63 - 1, true, true},
		{1 << 63, 1<<63 - 1, false, false},
		{1 << 63, top, true, true},
	} {
		if got := Less(c.a, c.b, c.signed); got != c.want {
			t.Errorf("Less(%#x, %#x, %v) = %v", c.a, c.b, c.signed, got)
		}
	}
}

func TestLessEverywhere(t *testing.T) {
	for _, a := range edgeUints() {
		for _, b := range edgeUints() {
			if got := Less(a, b, false); got != (a < b) {
				t.Fatalf("Less(%#x, %#x, false) = %v", a, b, got)
			}
			if got := Less(a, b, true); got != (int64(a) < int64(b)) {
				t.Fatalf("Less(%#x, %#x, true) = %v", a, b, got)
			}
		}
	}
}

// P1.4

func TestLoadExamples(t *testing.T) {
	ff := []byte{0xff, 0xff, 0xff, 0xff}
	up := []byte{1, 2, 3, 4, 5, 6, 7, 8, 0x89}
	for _, c := range []struct {
		b         []byte
		at, width int
		want      uint64
		ok        bool
	}{
		{ff, 0, 4, math.MaxUint64, true},
		{ff, 0, 1, 0xff, true},
		{ff, 3, 1, 0xff, true},
		{ff, 4, 1, 0, false},
		{ff, 1, 4, 0, false},
		{ff, 0, 8, 0, false},
		{ff, -1, 4, 0, false},
		{ff, -1, 1, 0, false},
		{[]byte{1}, 0, 2, 0, false},
		{up, 0, 4, 0x04030201, true},
		{up, 5, 4, 0xffffffff89080706, true},
		{up, 6, 4, 0, false},
		{up, 0, 8, 0x0807060504030201, true},
		{up, 1, 8, 0x8908070605040302, true},
		{up, 2, 8, 0, false},
		{up, 8, 1, 0x89, true},
		{up, 9, 1, 0, false},
		{up, math.MaxInt, 8, 0, false},
		{up, math.MaxInt - 7, 8, 0, false},
		{up, math.MinInt, 8, 0, false},
		{[]byte{0xff, 0xff, 0xff, 0x7f}, 0, 4, math.MaxInt32, true},
		{[]byte{0, 0, 0, 0x80}, 0, 4, 0xffffffff80000000, true},
		{nil, 0, 1, 0, false},
		{nil, 0, 4, 0, false},
		{nil, 0, 8, 0, false},
		{nil, 0, 0, 0, false},
		{nil, -1, 1, 0, false},
		{[]byte{}, 0, 1, 0, false},
	} {
		if got, ok := Load(c.b, c.at, c.width); got != c.want || ok != c.ok {
			t.Errorf("Load(% x, %d, %d) = %#x, %v, want %#x, %v", c.b, c.at, c.width, got, ok, c.want, c.ok)
		}
	}
}

func TestLoadOfOtherWidths(t *testing.T) {
	b := bytes.Repeat([]byte{0x81}, 200)
	for _, width := range places() {
		if width == 1 || width == 4 || width == 8 {
			continue
		}
		for _, at := range places() {
			if got, ok := Load(b, at, width); got != 0 || ok {
				t.Fatalf("Load(.., %d, %d) = %#x, %v", at, width, got, ok)
			}
		}
	}
}

func TestLoadEverywhere(t *testing.T) {
	for size := range 20 {
		b := make([]byte, size)
		for i := range b {
			b[i] = byte(0x71 + i*37)
		}
		for _, width := range []int{1, 4, 8} {
			for _, at := range places() {
				there := at >= 0 && at <= size && size-at >= width
				want := uint64(0)
				if there {
					for i := width - 1; i >= 0; i-- {
						want = want*256 + uint64(b[at+i])
					}
					if width == 4 {
						want = uint64(int32(want))
					}
				}
				if got, ok := Load(b, at, width); got != want || ok != there {
					t.Fatalf("Load(% x, %d, %d) = %#x, %v, want %#x, %v", b, at, width, got, ok, want, there)
				}
			}
		}
	}
}

// What lies behind the length is not read, and the bytes stay as they are.
func TestLoadKeepsToTheLength(t *testing.T) {
	whole := []byte{1, 2, 3, 4, 5, 6, 7, 8}
	for size := range 8 {
		for _, width := range []int{1, 4, 8} {
			_, ok := Load(whole[:size], 0, width)
			if ok != (size >= width) {
				t.Errorf("Load of %d bytes, width %d: %v", size, width, ok)
			}
		}
	}
	if !bytes.Equal(whole, []byte{1, 2, 3, 4, 5, 6, 7, 8}) {
		t.Error("Load changed what it was given:", whole)
	}
}

func TestStoreExamples(t *testing.T) {
	const v = 0x8877665544332211
	for _, c := range []struct {
		v     uint64
		width int
		want  []byte
	}{
		{v, 1, []byte{0x11}},
		{v, 4, []byte{0x11, 0x22, 0x33, 0x44}},
		{v, 8, []byte{0x11, 0x22, 0x33, 0x44, 0x55, 0x66, 0x77, 0x88}},
		{0x0102, 1, []byte{2}},
		{0, 8, make([]byte, 8)},
		{math.MaxUint64, 4, []byte{0xff, 0xff, 0xff, 0xff}},
	} {
		if got := Store(c.v, c.width); !bytes.Equal(got, c.want) {
			t.Errorf("Store(%#x, %d) = % x, want % x", c.v, c.width, got, c.want)
		}
	}
}

func TestStoreOfOtherWidths(t *testing.T) {
	for _, width := range places() {
		if width == 1 || width == 4 || width == 8 {
			continue
		}
		if got := Store(math.MaxUint64, width); len(got) != 0 {
			t.Errorf("Store(.., %d) = % x", width, got)
		}
	}
}

func TestStoreHandsOutNewMemory(t *testing.T) {
	for _, width := range []int{1, 4, 8} {
		first := Store(math.MaxUint64, width)
		second := Store(0, width)
		for i := range second[:cap(second)] {
			second[:cap(second)][i] = 9
		}
		if v, ok := Load(first, 0, width); !ok || byte(v) != 0xff || !bytes.Equal(first, Store(math.MaxUint64, width)) {
			t.Errorf("width %d: % x after another store was written", width, first)
		}
	}
}

// P1.5

func TestPlacedIsTheField(t *testing.T) {
	for _, w := range edgeWords() {
		for at := range 32 {
			for n := 1; at+n <= 32; n++ {
				for _, v := range []int{0, 1, 5, -1, -6, math.MinInt, math.MaxInt, 0x5a5a5a5a} {
					placed := Place(w, v, at, n)
					low := v & (1<<n - 1)
					if got := Field(placed, at, n); got != low {
						t.Fatalf("Field(Place(%#x, %d, %d, %d)) = %#x, want %#x", w, v, at, n, got, low)
					}
					if back := Place(placed, Field(w, at, n), at, n); back != w {
						t.Fatalf("Place(%#x, %d, %d, %d) changed other bits", w, v, at, n)
					}
				}
			}
		}
	}
}

func TestStoredIsLoadedAgain(t *testing.T) {
	for _, v := range edgeUints() {
		want := map[int]uint64{1: v & 0xff, 4: uint64(int32(v)), 8: v}
		for _, width := range []int{1, 4, 8} {
			stored := append([]byte{0x5a, 0xa5, 0xff}, Store(v, width)...)
			if got, ok := Load(stored, 3, width); got != want[width] || !ok {
				t.Errorf("Load of Store(%#x, %d) = %#x, %v, want %#x", v, width, got, ok, want[width])
			}
		}
	}
}

func TestQuotientAndRestAreTheNumber(t *testing.T) {
	for _, a := range edgeUints() {
		for _, b := range edgeUints() {
			q, r := Divide(a, b)
			if q*b+r != a {
				t.Fatalf("Divide(%d, %d) = %d, %d", a, b, q, r)
			}
			if b == 0 {
				continue
			}
			whole := new(big.Int).Mul(new(big.Int).SetUint64(q), new(big.Int).SetUint64(b))
			whole.Add(whole, new(big.Int).SetUint64(r))
			if r >= b || whole.Cmp(new(big.Int).SetUint64(a)) != 0 {
				t.Fatalf("Divide(%d, %d) = %d, %d", a, b, q, r)
			}
		}
	}
}

// The table and the helpers that all of the above lean on.

func TestEndsOfAnyOrderedType(t *testing.T) {
	if least, greatest := ends(2, -3); least != -3 || greatest != 2 {
		t.Error(least, greatest)
	}
	if least, greatest := ends(uint64(1), math.MaxUint64); least != 1 || greatest != math.MaxUint64 {
		t.Error(least, greatest)
	}
	if least, greatest := ends("b", "a"); least != "a" || greatest != "b" {
		t.Error(least, greatest)
	}
	if least, greatest := ends(7, 7); least != 7 || greatest != 7 {
		t.Error(least, greatest)
	}
}

func TestWithinNothing(t *testing.T) {
	for v := -3; v <= 3; v++ {
		if within(v, 1, 0) || within(v, 0, -3) {
			t.Errorf("%d is within what holds nothing", v)
		}
	}
}
