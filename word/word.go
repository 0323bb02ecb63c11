// Package word is layer 1: bits, numbers of 64 bits, and their bytes. See shared/doc/01-word.md.
package word

import "cmp"

// The kinds of shifts.
const (
	left = iota
	right
	rightWithSign
)

// size is one that loads and stores have: its bytes, and how many bits above them a load fills with the sign.
type size struct{ bytes, filled int }

var sizes = [...]size{{bytes: 1}, {bytes: 4, filled: 32}, {bytes: 8}}

// Field tells n bits of a word, from a place on.
func Field(w uint32, at, n int) int {
	if !isField(at, n) {
		return 0
	}
	return int(w >> uint(at) & ones(n))
}

// Place puts a number's lowest n bits there.
func Place(w uint32, v, at, n int) uint32 {
	if !isField(at, n) {
		return w
	}
	mask := ones(n) << uint(at)
	return w&^mask | uint32(v)<<uint(at)&mask
}

// Sign tells a number of n bits with its sign.
func Sign(v, n int) int {
	if !within(n, 1, 63) {
		return 0
	}
	above := uint(64 - n)
	return int(int64(v) << above >> above)
}

// Fits tells whether a number with a sign has at most n bits.
func Fits(v, n int) bool {
	if !within(n, 1, 63) {
		return false
	}
	half := 1 << uint(n-1)
	return within(v, -half, half-1)
}

// Divide tells quotient and rest of numbers without signs.
func Divide(a, b uint64) (q, r uint64) {
	if b == 0 {
		return ^uint64(0), a
	}
	return a / b, a % b
}

// Shift shifts: kind 0 to the left, 1 to the right, 2 to the right with the sign; by the lowest six bits.
func Shift(kind int, a, by uint64) uint64 {
	by &= 63
	var fill uint64
	switch kind {
	case left:
		return a << by
	case rightWithSign:
		fill = signFill(a, by)
		fallthrough
	case right:
		return a>>by | fill
	}
	return a
}

// Less tells whether a is below b, with signs or without.
func Less(a, b uint64, signed bool) bool {
	if signed {
		return below(int64(a), int64(b))
	}
	return below(a, b)
}

// Load tells a number of width bytes (1, 4, 8) that stand there, the lowest first; four with their sign.
func Load(b []byte, at, width int) (uint64, bool) {
	s, known := sizeOf(width)
	// The last place is reckoned from the end: at and width together could leave int's range.
	if !known || !within(at, 0, len(b)-s.bytes) {
		return 0, false
	}
	var v uint64
	for i := range s.bytes {
		v |= uint64(b[at+i]) << uint(8*i)
	}
	filled := uint64(s.filled)
	return Shift(rightWithSign, v<<filled, filled), true
}

// Store tells the bytes of a number's lowest ones.
func Store(v uint64, width int) []byte {
	s, known := sizeOf(width)
	if !known {
		return nil
	}
	b := make([]byte, s.bytes)
	for i := range b {
		b[i] = byte(v >> uint(8*i))
	}
	return b
}

// isField tells whether a word of 32 bits has n bits from at on.
func isField(at, n int) bool {
	return within(at, 0, 31) && within(n, 1, 32-at)
}

// ones tells the word whose lowest n bits (1 to 32) are 1.
func ones(n int) uint32 {
	return ^uint32(0) >> uint(32-n)
}

// signFill tells what a's highest bit puts into the bits that a shift to the right by that many lays free.
func signFill(a, by uint64) uint64 {
	if a>>63 == 0 {
		return 0
	}
	return ^(^uint64(0) >> by)
}

// sizeOf tells the size of that many bytes, if loads and stores have it.
func sizeOf(bytes int) (size, bool) {
	for _, s := range sizes {
		if s.bytes == bytes {
			return s, true
		}
	}
	return size{}, false
}

// ends tells the least and the greatest of two.
func ends[T cmp.Ordered](a, b T) (least, greatest T) {
	if b < a {
		return b, a
	}
	return a, b
}

// within tells whether v is from low to high; nothing is, if high is below low.
func within[T cmp.Ordered](v, low, high T) bool {
	least, _ := ends(v, low)
	_, greatest := ends(v, high)
	return least == low && greatest == high
}

// below tells whether a comes before b.
func below[T cmp.Ordered](a, b T) bool {
	least, greatest := ends(a, b)
	return least == a && greatest != a
}
