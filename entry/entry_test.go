package entry

import (
	"math"
	"testing"

	"palisade/api"
)

// edges are whole numbers at and near the ends of what places, frames and types have.
var edges = []int{
	math.MinInt, math.MinInt + 1, math.MinInt32, -65536, -256, -32, -2, -1,
	0, 1, 2, 3, 7, 8, 30, 31, 32, 33, 254, 255, 256, 257, 1023, 1024,
	65534, 65535, 65536, 65537, 1 << 18, 1 << 26, math.MaxInt32, 1 << 32, 1 << 54, math.MaxInt - 1, math.MaxInt,
}

// flagged makes an entry of a number's seven lowest bits, as the chapter numbers them.
func flagged(n, frame int) Entry {
	return Entry{
		Valid: n&1 != 0, Read: n&2 != 0, Write: n&4 != 0, Exec: n&8 != 0,
		User: n&16 != 0, Used: n&32 != 0, Dirty: n&64 != 0,
		Frame: frame,
	}
}

// possible tells whether there may be an entry of such flags, in a frame.
func possible(n, frame int) bool {
	if frame < 0 || frame > 65535 {
		return false
	}
	if n&1 == 0 {
		return n == 0 && frame == 0
	}
	if n&4 != 0 && n&2 == 0 {
		return false
	}
	isTable := n&(2|4|8) == 0
	return !isTable || n&(16|32|64) == 0
}

func TestPack(t *testing.T) {
	for _, c := range []struct {
		name string
		x    Entry
		want uint64
		e    api.Errno
	}{
		{"chapter's example", Entry{Valid: true, Read: true, Write: true, Frame: 3}, 3*1024 + 7, api.OK},
		{"zero entry", Entry{}, 0, api.OK},
		{"table", Entry{Valid: true}, 1, api.OK},
		{"table in the last frame", Entry{Valid: true, Frame: 65535}, 65535<<10 + 1, api.OK},
		{"table beyond the last frame", Entry{Valid: true, Frame: 65536}, 0, api.ErrForm},
		{"table in frame -1", Entry{Valid: true, Frame: -1}, 0, api.ErrForm},
		{"least frame", Entry{Valid: true, Read: true, Frame: math.MinInt}, 0, api.ErrForm},
		{"greatest frame", Entry{Valid: true, Read: true, Frame: math.MaxInt}, 0, api.ErrForm},
		{"frame that is 0 after a shift", Entry{Valid: true, Read: true, Frame: 1 << 54}, 0, api.ErrForm},
		{"Read", Entry{Valid: true, Read: true}, 1 + 2, api.OK},
		{"Write with Read", Entry{Valid: true, Read: true, Write: true}, 1 + 2 + 4, api.OK},
		{"Exec", Entry{Valid: true, Exec: true}, 1 + 8, api.OK},
		{"User", Entry{Valid: true, Read: true, User: true}, 1 + 2 + 16, api.OK},
		{"Used", Entry{Valid: true, Read: true, Used: true}, 1 + 2 + 32, api.OK},
		{"Dirty", Entry{Valid: true, Read: true, Dirty: true}, 1 + 2 + 64, api.OK},
		{"all", Entry{true, true, true, true, true, true, true, 65535}, 65535<<10 + 127, api.OK},
		{"all but Valid", Entry{false, true, true, true, true, true, true, 0}, 0, api.ErrForm},
		{"Frame without Valid", Entry{Frame: 1}, 0, api.ErrForm},
		{"Frame below 0 without Valid", Entry{Frame: -1}, 0, api.ErrForm},
		{"Read without Valid", Entry{Read: true}, 0, api.ErrForm},
		{"Write without Valid", Entry{Write: true}, 0, api.ErrForm},
		{"Exec without Valid", Entry{Exec: true}, 0, api.ErrForm},
		{"User without Valid", Entry{User: true}, 0, api.ErrForm},
		{"Used without Valid", Entry{Used: true}, 0, api.ErrForm},
		{"Dirty without Valid", Entry{Dirty: true}, 0, api.ErrForm},
		{"Write without Read", Entry{Valid: true, Write: true}, 0, api.ErrForm},
		{"Write and Exec without Read", Entry{Valid: true, Write: true, Exec: true}, 0, api.ErrForm},
		{"table with User", Entry{Valid: true, User: true}, 0, api.ErrForm},
		{"table with Used", Entry{Valid: true, Used: true, Frame: 1}, 0, api.ErrForm},
		{"table with Dirty", Entry{Valid: true, Dirty: true}, 0, api.ErrForm},
		{"Dirty without Write, Used", Entry{Valid: true, Exec: true, Dirty: true}, 1 + 8 + 64, api.OK},
	} {
		if v, e := Pack(c.x); v != c.want || e != c.e {
			t.Errorf("%s: Pack(%+v) = %d, %d; want %d, %d", c.name, c.x, v, e, c.want, c.e)
		}
	}
}

// TestPackEverywhere goes through all flags, at frames of the whole range of int.
func TestPackEverywhere(t *testing.T) {
	for _, frame := range edges {
		for n := range 128 {
			var want uint64
			wantE := api.ErrForm
			if possible(n, frame) {
				want, wantE = uint64(n)+1024*uint64(frame), api.OK
			}
			if v, e := Pack(flagged(n, frame)); v != want || e != wantE {
				t.Errorf("Pack(flags %#x, frame %d) = %d, %d; want %d, %d", n, frame, v, e, want, wantE)
			}
		}
	}
}

func TestUnpack(t *testing.T) {
	for _, c := range []struct {
		name string
		v    uint64
		want Entry
		e    api.Errno
	}{
		{"0", 0, Entry{}, api.OK},
		{"chapter's Write alone", 4, Entry{}, api.OK},
		{"chapter's Write without Read", 5, Entry{}, api.ErrForm},
		{"Write and Exec without Read", 1 + 4 + 8, Entry{}, api.ErrForm},
		{"all bits but the lowest", math.MaxUint64 - 1, Entry{}, api.OK},
		{"highest bit alone", 1 << 63, Entry{}, api.OK},
		{"frame without Valid", 7 << 10, Entry{}, api.OK},
		{"greatest number", math.MaxUint64, Entry{}, api.ErrForm},
		{"table", 9<<10 + 1, Entry{Valid: true, Frame: 9}, api.OK},
		{"table in the last frame", 65535<<10 + 1, Entry{Valid: true, Frame: 65535}, api.OK},
		{"table with User", 1 + 16, Entry{}, api.ErrForm},
		{"table with Used", 1 + 32, Entry{}, api.ErrForm},
		{"table with Dirty", 1 + 64, Entry{}, api.ErrForm},
		{"Exec", 1 + 8, Entry{Valid: true, Exec: true}, api.OK},
		{"all", 65535<<10 + 127, Entry{true, true, true, true, true, true, true, 65535}, api.OK},
		{"bit 7", 3 + 1<<7, Entry{}, api.ErrForm},
		{"bit 8", 3 + 1<<8, Entry{}, api.ErrForm},
		{"bit 9", 3 + 1<<9, Entry{}, api.ErrForm},
		{"frame's lowest bit", 3 + 1<<10, Entry{Valid: true, Read: true, Frame: 1}, api.OK},
		{"frame's highest bit", 3 + 1<<25, Entry{Valid: true, Read: true, Frame: 32768}, api.OK},
		{"bit 26", 3 + 1<<26, Entry{}, api.ErrForm},
		{"bit 63", 3 + 1<<63, Entry{}, api.ErrForm},
	} {
		if x, e := Unpack(c.v); x != c.want || e != c.e {
			t.Errorf("%s: Unpack(%#x) = %+v, %d; want %+v, %d", c.name, c.v, x, e, c.want, c.e)
		}
	}
}

// TestUnpackEverywhere goes through all numbers of the bits below the frame, with frames, and with each bit above.
func TestUnpackEverywhere(t *testing.T) {
	above := []uint64{0, 1<<38 - 1}
	for i := range 38 {
		above = append(above, 1<<i)
	}
	for low := range 1024 {
		for _, frame := range []int{0, 1, 2, 255, 32768, 65534, 65535} {
			for _, high := range above {
				v := high<<26 | uint64(frame)<<10 | uint64(low)
				var want Entry
				wantE := api.OK
				switch {
				case low%2 == 0:
				case high != 0 || low >= 128 || !possible(low, frame):
					wantE = api.ErrForm
				default:
					want = flagged(low, frame)
				}
				if x, e := Unpack(v); x != want || e != wantE {
					t.Fatalf("Unpack(%#x) = %+v, %d; want %+v, %d", v, x, e, want, wantE)
				}
			}
		}
	}
}

// TestUnpackOfPack: each entry that may be is the one that its number tells.
func TestUnpackOfPack(t *testing.T) {
	packed := 0
	for _, frame := range []int{0, 1, 2, 3, 255, 256, 1023, 32767, 32768, 65534, 65535} {
		for n := range 128 {
			x := flagged(n, frame)
			v, e := Pack(x)
			if e != api.OK {
				continue
			}
			packed++
			if back, e := Unpack(v); back != x || e != api.OK {
				t.Errorf("Unpack(Pack(%+v)) = %+v, %d", x, back, e)
			}
		}
	}
	// Of each frame: a table, and five of Read, Write and Exec with each of the eight of User, Used and Dirty; of frame 0 the zero entry too.
	if want := 11*(1+5*8) + 1; packed != want {
		t.Errorf("%d entries may be, want %d", packed, want)
	}
}

func TestLeaf(t *testing.T) {
	for _, c := range []struct {
		name string
		x    Entry
		want bool
	}{
		{"zero entry", Entry{}, false},
		{"table", Entry{Valid: true, Frame: 5}, false},
		{"Read", Entry{Valid: true, Read: true}, true},
		{"Exec", Entry{Valid: true, Exec: true}, true},
		{"Read and Exec", Entry{Valid: true, Read: true, Exec: true}, true},
		{"Write alone", Entry{Valid: true, Write: true}, false},
		{"User alone", Entry{Valid: true, User: true, Used: true, Dirty: true}, false},
		{"Read without Valid", Entry{Read: true}, false},
		{"Exec without Valid", Entry{Exec: true}, false},
		{"all but Valid", Entry{false, true, true, true, true, true, true, 1}, false},
		{"frame beyond all", Entry{Valid: true, Read: true, Frame: math.MaxInt}, true},
		{"frame below 0", Entry{Valid: true, Frame: -1}, false},
	} {
		if got := Leaf(c.x); got != c.want {
			t.Errorf("%s: Leaf(%+v) = %v", c.name, c.x, got)
		}
	}
	for n := range 128 {
		want := n&1 != 0 && n&(2|8) != 0
		for _, frame := range edges {
			if got := Leaf(flagged(n, frame)); got != want {
				t.Errorf("Leaf(flags %#x, frame %d) = %v", n, frame, got)
			}
		}
	}
}

func TestSplit(t *testing.T) {
	for _, c := range []struct {
		at                   uint64
		upper, lower, offset int
		ok                   bool
	}{
		{1<<13 + 1<<8 + 7, 1, 1, 7, true},
		{0, 0, 0, 0, true},
		{255, 0, 0, 255, true},
		{256, 0, 1, 0, true},
		{1<<13 - 1, 0, 31, 255, true},
		{1 << 13, 1, 0, 0, true},
		{1<<18 - 1, 31, 31, 255, true},
		{1 << 18, 0, 0, 0, false},
		{1<<18 + 1, 0, 0, 0, false},
		{1 << 32, 0, 0, 0, false},
		{1<<63 + 5, 0, 0, 0, false},
		{math.MaxUint64, 0, 0, 0, false},
	} {
		upper, lower, offset, ok := Split(c.at)
		if upper != c.upper || lower != c.lower || offset != c.offset || ok != c.ok {
			t.Errorf("Split(%#x) = %d, %d, %d, %v; want %d, %d, %d, %v",
				c.at, upper, lower, offset, ok, c.upper, c.lower, c.offset, c.ok)
		}
	}
	for bit := 18; bit < 64; bit++ {
		for _, low := range []uint64{0, 1, 1<<18 - 1} {
			if upper, lower, offset, ok := Split(1<<bit | low); upper != 0 || lower != 0 || offset != 0 || ok {
				t.Errorf("Split(2^%d + %d) = %d, %d, %d, %v", bit, low, upper, lower, offset, ok)
			}
		}
	}
}

func TestJoin(t *testing.T) {
	for _, c := range []struct {
		upper, lower, offset int
		want                 uint64
		e                    api.Errno
	}{
		{0, 0, 0, 0, api.OK},
		{1, 1, 7, 1<<13 + 1<<8 + 7, api.OK},
		{31, 31, 255, 1<<18 - 1, api.OK},
		{31, 0, 0, 31 << 13, api.OK},
		{0, 31, 0, 31 << 8, api.OK},
		{0, 0, 255, 255, api.OK},
		{32, 31, 255, 0, api.ErrArg},
		{31, 32, 255, 0, api.ErrArg},
		{31, 31, 256, 0, api.ErrArg},
		{-1, 0, 0, 0, api.ErrArg},
		{0, -1, 0, 0, api.ErrArg},
		{0, 0, -1, 0, api.ErrArg},
		{math.MinInt, math.MinInt, math.MinInt, 0, api.ErrArg},
		{math.MaxInt, math.MaxInt, math.MaxInt, 0, api.ErrArg},
	} {
		if at, e := Join(c.upper, c.lower, c.offset); at != c.want || e != c.e {
			t.Errorf("Join(%d, %d, %d) = %#x, %d; want %#x, %d", c.upper, c.lower, c.offset, at, e, c.want, c.e)
		}
	}
}

// TestJoinEverywhere goes through places of the whole range of int.
func TestJoinEverywhere(t *testing.T) {
	for _, upper := range edges {
		for _, lower := range edges {
			for _, offset := range edges {
				var want uint64
				wantE := api.ErrArg
				if upper >= 0 && upper <= 31 && lower >= 0 && lower <= 31 && offset >= 0 && offset <= 255 {
					want, wantE = uint64(upper*8192+lower*256+offset), api.OK
				}
				if at, e := Join(upper, lower, offset); at != want || e != wantE {
					t.Errorf("Join(%d, %d, %d) = %#x, %d; want %#x, %d", upper, lower, offset, at, e, want, wantE)
				}
			}
		}
	}
}

// TestJoinOfSplit: each address is the one that its parts tell.
func TestJoinOfSplit(t *testing.T) {
	for at := range uint64(1 << 18) {
		upper, lower, offset, ok := Split(at)
		if !ok {
			t.Fatalf("Split(%#x) is false", at)
		}
		if back, e := Join(upper, lower, offset); back != at || e != api.OK {
			t.Fatalf("Join(Split(%#x)) = %#x, %d", at, back, e)
		}
	}
}

func TestAllows(t *testing.T) {
	if Fetch != 0 || Load != 1 || Store != 2 {
		t.Errorf("the kinds of access are %d, %d, %d", Fetch, Load, Store)
	}
	page := Entry{Valid: true, Read: true, Write: true, Exec: true}
	users := Entry{Valid: true, Read: true, Write: true, Exec: true, User: true}
	for _, c := range []struct {
		name   string
		x      Entry
		access int
		user   bool
		want   bool
	}{
		{"Fetch", page, Fetch, false, true},
		{"Load", page, Load, false, true},
		{"Store", page, Store, false, true},
		{"Fetch from User", users, Fetch, true, true},
		{"Load from User", users, Load, true, true},
		{"Store from User", users, Store, true, true},
		{"User of what is not User's", page, Load, true, false},
		{"not User of what is User's", users, Load, false, false},
		{"Fetch without Exec", Entry{Valid: true, Read: true, Write: true}, Fetch, false, false},
		{"Load without Read", Entry{Valid: true, Exec: true}, Load, false, false},
		{"Store without Write", Entry{Valid: true, Read: true, Exec: true}, Store, false, false},
		{"access 3", page, 3, false, false},
		{"access -1", page, -1, false, false},
		{"least access", users, math.MinInt, true, false},
		{"greatest access", users, math.MaxInt, true, false},
		{"zero entry", Entry{}, Load, false, false},
		{"table", Entry{Valid: true, Frame: 1}, Load, false, false},
		{"without Valid", Entry{Read: true, Write: true, Exec: true}, Load, false, false},
		{"Write alone", Entry{Valid: true, Write: true}, Store, false, false},
		{"Write and Exec without Read", Entry{Valid: true, Write: true, Exec: true}, Store, false, true},
		{"frame below 0", Entry{Valid: true, Read: true, Frame: -1}, Load, false, true},
	} {
		if got := Allows(c.x, c.access, c.user); got != c.want {
			t.Errorf("%s: Allows(%+v, %d, %v) = %v", c.name, c.x, c.access, c.user, got)
		}
	}
}

// TestAllowsEverywhere goes through all flags, at accesses and frames of the whole range of int.
func TestAllowsEverywhere(t *testing.T) {
	needs := map[int]int{0: 8, 1: 2, 2: 4}
	for n := range 128 {
		leaf := n&1 != 0 && n&(2|8) != 0
		for _, access := range edges {
			flag, known := needs[access]
			for _, user := range []bool{false, true} {
				want := leaf && known && n&flag != 0 && (n&16 != 0) == user
				for _, frame := range edges {
					if got := Allows(flagged(n, frame), access, user); got != want {
						t.Errorf("Allows(flags %#x, frame %d, %d, %v) = %v", n, frame, access, user, got)
					}
				}
			}
		}
	}
}
