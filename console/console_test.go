package console

import (
	"bytes"
	"math"
	"testing"

	"palisade/api"
)

// line is how many bytes wait at most, and all how many are written at most.
const (
	line = 4096
	all  = 1 << 20
)

// belowOne are numbers of which none is read, both ends of what is below 1 among them.
var belowOne = []int{math.MinInt, math.MinInt + 1, -1 << 32, math.MinInt32 - 1, math.MinInt32, -4097, -4096, -2, -1, 0}

// farAbove are numbers that are more than may wait.
var farAbove = []int{4097, 1 << 20, math.MaxInt32, math.MaxInt32 + 1, 1 << 32, 1 << 62, math.MaxInt - 1, math.MaxInt}

// text is so many bytes of which no two near ones are the same; it goes on where another one of from bytes ends.
func text(from, length int) []byte {
	b := make([]byte, length)
	for i := range b {
		b[i] = byte((from+i)%251) ^ byte((from+i)/251)
	}
	return b
}

func wantInput(t *testing.T, c *Console, b []byte, want int) {
	t.Helper()
	if n, e := c.Input(b); n != want || e != api.OK {
		t.Errorf("Input of %d bytes = %d, %d; want %d, 0", len(b), n, int(e), want)
	}
}

func wantWrite(t *testing.T, c *Console, b []byte, want int) {
	t.Helper()
	if n, e := c.Write(b); n != want || e != api.OK {
		t.Errorf("Write of %d bytes = %d, %d; want %d, 0", len(b), n, int(e), want)
	}
}

func wantRead(t *testing.T, c *Console, n int, want []byte) {
	t.Helper()
	if got := c.Read(n); !bytes.Equal(got, want) {
		t.Errorf("Read(%d) = %s; want %s", n, short(got), short(want))
	}
}

func wantWritten(t *testing.T, c *Console, want []byte) {
	t.Helper()
	if got := c.Written(); !bytes.Equal(got, want) {
		t.Errorf("Written = %s; want %s", short(got), short(want))
	}
}

func wantCounts(t *testing.T, c *Console, came, dropped, read, written int) {
	t.Helper()
	if got, want := c.Counts(), (Counts{came, dropped, read, written}); got != want {
		t.Errorf("Counts = %v; want %v", got, want)
	}
}

// filled is a console where so many bytes of text wait.
func filled(t *testing.T, length int) *Console {
	t.Helper()
	c := New()
	wantInput(t, c, text(0, length), length)
	wantCounts(t, c, length, 0, 0, 0)
	return c
}

// The chapter's example.

func TestExample(t *testing.T) {
	c := New()
	wantInput(t, c, []byte("abc"), 3)
	wantRead(t, c, 2, []byte("ab"))
	wantWrite(t, c, []byte("x"), 1)
	wantCounts(t, c, 3, 0, 2, 1)
	wantWritten(t, c, []byte("x"))
	wantRead(t, c, 9, []byte("c"))
	wantCounts(t, c, 3, 0, 3, 1)
}

func TestNew(t *testing.T) {
	c := New()
	if c == nil {
		t.Fatal("New = nil")
	}
	for range 2 {
		wantCounts(t, c, 0, 0, 0, 0)
		wantWritten(t, c, nil)
		wantRead(t, c, math.MaxInt, nil)
	}
	wantInput(t, c, []byte("a"), 1)
	wantWrite(t, c, []byte("b"), 1)
	wantCounts(t, c, 1, 0, 0, 1)
}

// P14.1

func TestInputIntoEmpty(t *testing.T) {
	for _, length := range []int{0, 1, 2, 255, 256, 2048, line - 1, line, line + 1, line + 2, 2 * line, 1 << 16, all, all + 1} {
		c := New()
		taken := min(length, line)
		wantInput(t, c, text(0, length), taken)
		wantCounts(t, c, taken, length-taken, 0, 0)
		wantRead(t, c, length+1, text(0, taken))
		wantCounts(t, c, taken, length-taken, taken, 0)
		wantRead(t, c, 1, nil)
	}
}

func TestInputNothing(t *testing.T) {
	for _, waiting := range []int{0, 1, line - 1, line} {
		c := filled(t, waiting)
		for _, b := range [][]byte{nil, {}, make([]byte, 0, 9), text(0, 5)[5:]} {
			wantInput(t, c, b, 0)
			wantCounts(t, c, waiting, 0, 0, 0)
		}
		wantRead(t, c, line, text(0, waiting))
	}
}

// Into a console where some wait already: as many as there is room for wait, the first ones of what comes, and the others are dropped.
func TestInputWithRoomForAPart(t *testing.T) {
	lengths := []int{0, 1, 2, 3, 255, 256, 257, line - 2, line - 1, line, line + 1, 2 * line}
	for _, waiting := range []int{0, 1, 2, 100, line / 2, line - 257, line - 256, line - 3, line - 2, line - 1, line} {
		for _, length := range lengths {
			c := filled(t, waiting)
			taken := min(length, line-waiting)
			wantInput(t, c, text(waiting, length), taken)
			wantCounts(t, c, waiting+taken, length-taken, 0, 0)
			wantRead(t, c, math.MaxInt, text(0, waiting+taken))
			wantCounts(t, c, waiting+taken, length-taken, waiting+taken, 0)
		}
	}
}

func TestInputIntoFull(t *testing.T) {
	c := filled(t, line)
	dropped := 0
	for _, length := range []int{0, 1, 0, 2, line - 1, line, line + 1, 1} {
		wantInput(t, c, bytes.Repeat([]byte{'!'}, length), 0)
		dropped += length
		wantCounts(t, c, line, dropped, 0, 0)
	}
	wantRead(t, c, line, text(0, line))
	wantRead(t, c, line, nil)
	wantCounts(t, c, line, dropped, line, 0)
}

func TestInputByteByByte(t *testing.T) {
	c := New()
	b := text(0, line+10)
	for i := range b {
		taken := 1
		if i >= line {
			taken = 0
		}
		wantInput(t, c, b[i:i+1], taken)
		wantCounts(t, c, min(i+1, line), max(0, i+1-line), 0, 0)
	}
	for i := range line {
		wantRead(t, c, 1, b[i:i+1])
		wantCounts(t, c, line, 10, i+1, 0)
	}
	wantRead(t, c, 1, nil)
}

// Behind a Read there is room for as many as were read, and what was dropped ahead of it does not come again.
func TestInputBehindARead(t *testing.T) {
	for _, read := range []int{1, 2, 3, 255, line / 2, line - 1, line} {
		c := filled(t, line)
		wantInput(t, c, []byte("dropped"), 0)
		wantRead(t, c, read, text(0, read))
		wantCounts(t, c, line, 7, read, 0)
		wantInput(t, c, text(line, read+5), read)
		wantCounts(t, c, line+read, 12, read, 0)
		wantInput(t, c, []byte("x"), 0)
		wantRead(t, c, line-read, text(read, line-read))
		wantRead(t, c, line, text(line, read))
		wantCounts(t, c, line+read, 13, line+read, 0)
	}
}

// Where none is read, there is no more room.
func TestInputBehindAReadOfNone(t *testing.T) {
	c := filled(t, line)
	for _, n := range belowOne {
		wantRead(t, c, n, nil)
	}
	wantInput(t, c, []byte("x"), 0)
	wantCounts(t, c, line, 1, 0, 0)
}

// Over its whole time far more than MaxLine bytes may come.
func TestInputAgainAndAgain(t *testing.T) {
	c := New()
	const step = 1000
	for i := range 3000 {
		wantInput(t, c, text(i*step, step), step)
		wantRead(t, c, step, text(i*step, step))
	}
	wantCounts(t, c, 3000*step, 0, 3000*step, 0)
	wantInput(t, c, text(0, line+1), line)
	wantCounts(t, c, 3000*step+line, 1, 3000*step, 0)
	wantRead(t, c, line, text(0, line))
}

// At a console where always nearly MaxLine wait, each byte is read once, in order.
func TestInputNearlyFull(t *testing.T) {
	c := filled(t, line-1)
	for i := range 3 * line {
		wantInput(t, c, text(line-1+i, 2), 1)
		wantRead(t, c, 1, text(i, 1))
		wantCounts(t, c, line+i, i+1, i+1, 0)
	}
	wantRead(t, c, line, text(3*line, line-1))
}

func TestReadOfNone(t *testing.T) {
	for _, waiting := range []int{0, 1, line} {
		c := filled(t, waiting)
		for _, n := range belowOne {
			wantRead(t, c, n, nil)
			wantCounts(t, c, waiting, 0, 0, 0)
		}
		wantRead(t, c, line, text(0, waiting))
	}
}

func TestReadWhereNoneWaits(t *testing.T) {
	for _, c := range []*Console{New(), filled(t, 0), filled(t, 1), filled(t, line)} {
		c.Write([]byte("written"))
		came := c.Counts().Came
		wantRead(t, c, line, text(0, came))
		for _, n := range append(append([]int{1, 2, line}, belowOne...), farAbove...) {
			wantRead(t, c, n, nil)
			wantCounts(t, c, came, 0, came, 7)
		}
	}
}

func TestReadLengths(t *testing.T) {
	for _, waiting := range []int{1, 2, 3, 256, line - 1, line} {
		lengths := append([]int{1, 2, waiting - 1, waiting, waiting + 1, line - 1, line}, farAbove...)
		for _, n := range lengths {
			c := filled(t, waiting)
			read := max(0, min(n, waiting))
			wantRead(t, c, n, text(0, read))
			wantCounts(t, c, waiting, 0, read, 0)
			wantRead(t, c, math.MaxInt, text(read, waiting-read))
			wantCounts(t, c, waiting, 0, waiting, 0)
		}
	}
}

func TestReadInPieces(t *testing.T) {
	for _, piece := range []int{1, 2, 3, 7, 64, 255, 256, 1000, 4095, 4096, 4097} {
		c := filled(t, line)
		for at := 0; at < line; at += piece {
			wantRead(t, c, piece, text(at, min(piece, line-at)))
			wantCounts(t, c, line, 0, min(at+piece, line), 0)
		}
		wantRead(t, c, piece, nil)
	}
}

// A piece that is read may be of several that came, and end within one.
func TestReadOverManyInputs(t *testing.T) {
	c := New()
	for _, s := range []string{"a", "bcd", "", "ef", "ghijkl"} {
		wantInput(t, c, []byte(s), len(s))
	}
	wantRead(t, c, 2, []byte("ab"))
	wantRead(t, c, 3, []byte("cde"))
	wantInput(t, c, []byte("mn"), 2)
	wantRead(t, c, 4, []byte("fghi"))
	wantRead(t, c, 0, nil)
	wantRead(t, c, 4, []byte("jklm"))
	wantCounts(t, c, 14, 0, 13, 0)
	wantRead(t, c, 4, []byte("n"))
	wantRead(t, c, 4, nil)
	wantInput(t, c, []byte("o"), 1)
	wantRead(t, c, 4, []byte("o"))
	wantCounts(t, c, 15, 0, 15, 0)
}

// Each value of a byte comes and is written as it is.
func TestEachByte(t *testing.T) {
	var b [256]byte
	for i := range b {
		b[i] = byte(i)
	}
	c := New()
	wantInput(t, c, b[:], 256)
	wantWrite(t, c, b[:], 256)
	wantRead(t, c, 256, b[:])
	wantWritten(t, c, b[:])
}

// P14.2

func TestWriteInOneCall(t *testing.T) {
	for _, length := range []int{0, 1, 2, line - 1, line, line + 1, 1 << 16, all - 1, all, all + 1, 2 * all, 3*all + 7} {
		c := New()
		taken := min(length, all)
		wantWrite(t, c, text(0, length), taken)
		wantCounts(t, c, 0, 0, 0, taken)
		wantWritten(t, c, text(0, taken))
	}
}

func TestWriteNothing(t *testing.T) {
	for _, written := range []int{0, 1, all - 1, all} {
		c := New()
		wantWrite(t, c, text(0, written), written)
		for _, b := range [][]byte{nil, {}, make([]byte, 0, 9), text(0, 5)[5:]} {
			wantWrite(t, c, b, 0)
			wantCounts(t, c, 0, 0, 0, written)
		}
		wantWritten(t, c, text(0, written))
	}
}

// Where some are written already, as many as there is room for are written, the first ones; the others are not, and are not told as Dropped.
func TestWriteWithRoomForAPart(t *testing.T) {
	for _, written := range []int{0, 1, all / 2, all - 257, all - 2, all - 1, all} {
		for _, length := range []int{0, 1, 2, 3, 256, 257, 258, all - 1, all, all + 1} {
			c := New()
			wantWrite(t, c, text(0, written), written)
			taken := min(length, all-written)
			wantWrite(t, c, text(written, length), taken)
			wantCounts(t, c, 0, 0, 0, written+taken)
			wantWritten(t, c, text(0, written+taken))
		}
	}
}

func TestWriteInManyCalls(t *testing.T) {
	for _, piece := range []int{1, 3, 255, 256, 4095, 4096, 4097, 1 << 19, all - 1, all} {
		c := New()
		for at := 0; at < all; at += piece {
			wantWrite(t, c, text(at, piece), min(piece, all-at))
			wantCounts(t, c, 0, 0, 0, min(at+piece, all))
		}
		for _, length := range []int{1, 2, all} {
			wantWrite(t, c, text(7, length), 0)
			wantCounts(t, c, 0, 0, 0, all)
		}
		wantWritten(t, c, text(0, all))
	}
}

// What is told as written makes no room for more.
func TestWrittenTakesNothing(t *testing.T) {
	c := New()
	want := []byte{}
	for _, s := range []string{"", "a", "bc", "", "def", "\x00\xff\n"} {
		wantWrite(t, c, []byte(s), len(s))
		want = append(want, s...)
		for range 3 {
			wantWritten(t, c, want)
			wantCounts(t, c, 0, 0, 0, len(want))
		}
	}
	wantWrite(t, c, text(0, all), all-len(want))
	wantWritten(t, c, append(want, text(0, all-len(want))...))
	wantWrite(t, c, []byte("x"), 0)
}

func TestCountsAroundEachCall(t *testing.T) {
	c := New()
	wantCounts(t, c, 0, 0, 0, 0)
	wantInput(t, c, text(0, 5), 5)
	wantCounts(t, c, 5, 0, 0, 0)
	wantWrite(t, c, text(0, 7), 7)
	wantCounts(t, c, 5, 0, 0, 7)
	wantRead(t, c, 2, text(0, 2))
	wantCounts(t, c, 5, 0, 2, 7)
	wantInput(t, c, text(5, line), line-3)
	wantCounts(t, c, line+2, 3, 2, 7)
	wantWrite(t, c, text(7, all), all-7)
	wantCounts(t, c, line+2, 3, 2, all)
	wantRead(t, c, line, text(2, line))
	wantCounts(t, c, line+2, 3, line+2, all)
	wantWritten(t, c, text(0, all))
	wantCounts(t, c, line+2, 3, line+2, all)
	wantInput(t, c, text(0, line+9), line)
	wantCounts(t, c, 2*line+2, 12, line+2, all)
}

// What is told of the counts is compared as it stands, and is none of the console's own.
func TestCountsAreToldAlike(t *testing.T) {
	c := filled(t, 9)
	if c.Counts() != c.Counts() || c.Counts() == (Counts{}) {
		t.Errorf("Counts = %v, then %v", c.Counts(), c.Counts())
	}
	told := c.Counts()
	told.Came, told.Read = 100, 50
	wantCounts(t, c, 9, 0, 0, 0)
	wantRead(t, c, 9, text(0, 9))
}

// What comes in changes nothing of what is written, and the other way round.
func TestInputAndWriteAreApart(t *testing.T) {
	c := New()
	wantWrite(t, c, []byte("out"), 3)
	wantInput(t, c, text(0, line+1), line)
	wantWritten(t, c, []byte("out"))
	wantWrite(t, c, []byte("more"), 4)
	wantRead(t, c, 10, text(0, 10))
	wantWritten(t, c, []byte("outmore"))
	wantWrite(t, c, text(0, all), all-7)
	wantRead(t, c, line, text(10, line-10))
	wantInput(t, c, []byte("in"), 2)
	wantWrite(t, c, []byte("x"), 0)
	wantRead(t, c, 9, []byte("in"))
	wantWritten(t, c, append([]byte("outmore"), text(0, all-7)...))
	wantCounts(t, c, line+2, 1, line+2, all)
}

func TestTwoConsoles(t *testing.T) {
	a, b := New(), New()
	wantInput(t, a, []byte("abc"), 3)
	wantWrite(t, a, []byte("x"), 1)
	wantCounts(t, b, 0, 0, 0, 0)
	wantRead(t, b, 3, nil)
	wantWritten(t, b, nil)
	wantInput(t, b, text(0, line+1), line)
	wantWrite(t, b, text(0, all+1), all)
	wantCounts(t, a, 3, 0, 0, 1)
	wantInput(t, a, []byte("d"), 1)
	wantWrite(t, a, []byte("y"), 1)
	wantRead(t, a, 9, []byte("abcd"))
	wantWritten(t, a, []byte("xy"))
	wantRead(t, b, line, text(0, line))
	wantWritten(t, b, text(0, all))
}

// DOC.md, rule 1

func TestNoConsole(t *testing.T) {
	for _, c := range []*Console{nil, {}, new(Console)} {
		for _, b := range [][]byte{nil, {}, []byte("a"), text(0, line+1), text(0, all+1)} {
			if n, e := c.Input(b); n != 0 || e != api.ErrNil {
				t.Errorf("Input of no console = %d, %d; want 0, 1", n, int(e))
			}
			if n, e := c.Write(b); n != 0 || e != api.ErrNil {
				t.Errorf("Write of no console = %d, %d; want 0, 1", n, int(e))
			}
			for _, n := range append(append([]int{1, 2, line}, belowOne...), farAbove...) {
				wantRead(t, c, n, nil)
			}
			wantWritten(t, c, nil)
			wantCounts(t, c, 0, 0, 0, 0)
		}
	}
}

// Calls of no console change nothing of one.
func TestNoConsoleBesideOne(t *testing.T) {
	c := filled(t, 3)
	var plain Console
	plain.Input([]byte("a"))
	plain.Write([]byte("a"))
	(*Console)(nil).Write([]byte("a"))
	wantCounts(t, c, 3, 0, 0, 0)
	wantRead(t, c, 9, text(0, 3))
	wantWritten(t, c, nil)
}

// DOC.md, rule 4

func TestBytesAreNotKept(t *testing.T) {
	c := New()
	whole := []byte("some and more")
	for range 3 {
		wantInput(t, c, whole[:4], 4)
		wantWrite(t, c, whole[:4], 4)
	}
	if string(whole) != "some and more" {
		t.Errorf("what was handed in is %q", whole)
	}
	clear(whole)
	wantRead(t, c, 12, []byte("somesomesome"))
	wantWritten(t, c, []byte("somesomesome"))
}

// Nor are the bytes of the only call, with spare room or without, and of one of which a part alone has room.
func TestBytesOfOneCallAreNotKept(t *testing.T) {
	for _, length := range []int{1, 5, line - 1, line, line + 1, all - 1, all, all + 1} {
		for _, b := range [][]byte{text(0, length), text(0, length+9)[:length], text(0, length)[:length:length]} {
			c := New()
			wantInput(t, c, b, min(length, line))
			wantWrite(t, c, b, min(length, all))
			spoil(b)
			wantWritten(t, c, text(0, min(length, all)))
			wantRead(t, c, length, text(0, min(length, line)))
		}
	}
}

// What lies behind a list's length is neither taken nor told as dropped, nor written.
func TestBytesBehindTheLength(t *testing.T) {
	c := New()
	whole := text(0, all+line)
	wantInput(t, c, whole[3:5], 2)
	wantInput(t, c, whole[5:5:line], 0)
	wantWrite(t, c, whole[7:10], 3)
	wantCounts(t, c, 2, 0, 0, 3)
	wantInput(t, c, whole[5:1+line], line-4)
	wantCounts(t, c, line-2, 0, 0, 3)
	if !bytes.Equal(whole, text(0, all+line)) {
		t.Error("what was handed in is changed")
	}
	wantRead(t, c, line, text(3, line-2))
	wantWritten(t, c, text(7, 3))
}

// spoil writes over all that a list has, its spare room too.
func spoil(b []byte) {
	b = b[:cap(b)]
	for i := range b {
		b[i] = '#'
	}
}

func TestReadIsNotShared(t *testing.T) {
	c := filled(t, line)
	first := c.Read(100)
	spoil(first)
	second := c.Read(200)
	wantInput(t, c, text(line, 300), 300)
	if !bytes.Equal(second, text(100, 200)) {
		t.Error("what was read is changed by what came behind it")
	}
	spoil(second)
	spoil(c.Read(0))
	wantRead(t, c, line, text(300, line))
	wantInput(t, c, second, 200)
	spoil(second)
	spoil(first)
	wantRead(t, c, line, bytes.Repeat([]byte{'#'}, 200))
}

func TestReadStaysAsItWasRead(t *testing.T) {
	c := New()
	var pieces [][]byte
	for i := range 50 {
		wantInput(t, c, text(100*i, 100), 100)
		pieces = append(pieces, c.Read(100))
		c.Write(pieces[i])
	}
	for i, b := range pieces {
		if !bytes.Equal(b, text(100*i, 100)) {
			t.Errorf("the piece %d is %s", i, short(b))
		}
	}
}

func TestWrittenIsNotShared(t *testing.T) {
	c := New()
	wantWrite(t, c, text(0, 1000), 1000)
	first, second := c.Written(), c.Written()
	spoil(first)
	if !bytes.Equal(second, text(0, 1000)) {
		t.Error("what is told twice is shared")
	}
	spoil(second)
	third := c.Written()
	wantWrite(t, c, text(1000, 5000), 5000)
	if !bytes.Equal(third, text(0, 1000)) {
		t.Error("what was told is changed by what is written behind it")
	}
	spoil(third)
	wantWritten(t, c, text(0, 6000))
	wantCounts(t, c, 0, 0, 0, 6000)
}
