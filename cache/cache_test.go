package cache

import (
	"math"
	"slices"
	"testing"

	"palisade/api"
)

// edgeInts are numbers at both ends of int, and around the edges within.
var edgeInts = []int{math.MinInt, math.MinInt + 1, math.MinInt32, -1024, -1, 0, 1, 2, 1023, 1024, 1025, math.MaxInt32, math.MaxInt - 1, math.MaxInt}

func newCache[K comparable, V any](t *testing.T, room int) *Cache[K, V] {
	t.Helper()
	c, e := New[K, V](room)
	if e != api.OK || c == nil {
		t.Fatalf("New(%d) = %v, %d", room, c, int(e))
	}
	return c
}

func put[K comparable, V any](t *testing.T, c *Cache[K, V], group int, key K, value V) {
	t.Helper()
	if e := c.Put(group, key, value); e != api.OK {
		t.Fatalf("Put(%d, %v, %v) = %d", group, key, value, int(e))
	}
}

func wantGet[K comparable, V comparable](t *testing.T, c *Cache[K, V], group int, key K, value V) {
	t.Helper()
	if v, ok := c.Get(group, key); v != value || !ok {
		t.Errorf("Get(%d, %v) = %v, %v; want %v, true", group, key, v, ok, value)
	}
}

func wantNone[K comparable, V comparable](t *testing.T, c *Cache[K, V], group int, key K) {
	t.Helper()
	var none V
	if v, ok := c.Get(group, key); v != none || ok {
		t.Errorf("Get(%d, %v) = %v, %v; want the zero value, false", group, key, v, ok)
	}
}

func wantLen[K comparable, V any](t *testing.T, c *Cache[K, V], want int) {
	t.Helper()
	if n := c.Len(); n != want {
		t.Errorf("Len() = %d; want %d", n, want)
	}
	if len(c.kept) > c.Len() {
		t.Errorf("the map has %d, of %d that are kept", len(c.kept), c.Len())
	}
}

func TestExample(t *testing.T) {
	c := newCache[string, int](t, 2)
	put(t, c, 1, "a", 5)
	put(t, c, 1, "b", 6)
	put(t, c, 1, "a", 7)
	put(t, c, 2, "a", 8)
	wantNone(t, c, 1, "a")
	wantGet(t, c, 1, "b", 6)
	wantGet(t, c, 2, "a", 8)
	wantLen(t, c, 2)
	if n := c.DropGroup(1); n != 1 {
		t.Errorf("DropGroup(1) = %d; want 1", n)
	}
	wantLen(t, c, 1)
}

func TestNewRooms(t *testing.T) {
	rooms := slices.Concat(edgeInts, []int{-2, 3, 1022, 1026, 2048, 1 << 20, 1<<32 + 1})
	for _, room := range rooms {
		c, e := New[int, int](room)
		if room >= 1 && room <= 1024 {
			if c == nil || e != api.OK {
				t.Errorf("New(%d) = %v, %d; want a cache", room, c, int(e))
				continue
			}
			wantLen(t, c, 0)
			continue
		}
		if c != nil || e != api.ErrArg {
			t.Errorf("New(%d) = %v, %d; want nil, ErrArg", room, c, int(e))
		}
	}
}

// Each room that may be takes just so many; the one beyond drops the first one alone.
func TestRoomIsFilled(t *testing.T) {
	for room := 1; room <= 1024; room++ {
		c := newCache[int, int](t, room)
		for key := range room {
			put(t, c, 0, key, key+1)
		}
		wantLen(t, c, room)
		wantGet(t, c, 0, 0, 1)
		put(t, c, 0, room, room+1)
		wantLen(t, c, room)
		wantNone(t, c, 0, 0)
		for key := 1; key <= room; key++ {
			wantGet(t, c, 0, key, key+1)
		}
	}
}

func TestRoomOfOne(t *testing.T) {
	c := newCache[string, int](t, 1)
	put(t, c, 0, "a", 1)
	put(t, c, 0, "a", 2)
	wantGet(t, c, 0, "a", 2)
	wantLen(t, c, 1)
	put(t, c, 0, "b", 3)
	wantNone(t, c, 0, "a")
	wantGet(t, c, 0, "b", 3)
	wantLen(t, c, 1)
	put(t, c, 1, "b", 4)
	wantNone(t, c, 0, "b")
	wantGet(t, c, 1, "b", 4)
	if !c.Drop(1, "b") {
		t.Error("Drop(1, b) = false")
	}
	wantLen(t, c, 0)
	put(t, c, 0, "a", 5)
	wantGet(t, c, 0, "a", 5)
	wantLen(t, c, 1)
}

// A key that is kept and put again has its new value at its old age, wherever it stands, and drops no other one.
func TestPutAgainKeepsItsAge(t *testing.T) {
	for again := range 4 {
		c := newCache[int, int](t, 4)
		for key := range 4 {
			put(t, c, 7, key, key)
		}
		put(t, c, 7, again, 100)
		wantLen(t, c, 4)
		for next := range 4 {
			for key := range 4 {
				switch {
				case key < next:
					wantNone(t, c, 7, key)
				case key == again:
					wantGet(t, c, 7, key, 100)
				default:
					wantGet(t, c, 7, key, key)
				}
			}
			put(t, c, 7, 10+next, 0)
			wantLen(t, c, 4)
		}
	}
}

// Asking for a key does not turn its age.
func TestGetKeepsItsAge(t *testing.T) {
	c := newCache[string, int](t, 2)
	put(t, c, 0, "a", 1)
	put(t, c, 0, "b", 2)
	wantGet(t, c, 0, "a", 1)
	wantNone(t, c, 0, "c")
	put(t, c, 0, "c", 3)
	wantNone(t, c, 0, "a")
	wantGet(t, c, 0, "b", 2)
	wantGet(t, c, 0, "c", 3)
}

// A key that was dropped, by name, with its group or as the oldest, and is put again is the newest.
func TestDroppedAndPutAgain(t *testing.T) {
	drops := map[string]func(c *Cache[string, int]){
		"Drop":      func(c *Cache[string, int]) { c.Drop(1, "a") },
		"DropGroup": func(c *Cache[string, int]) { c.DropGroup(1) },
	}
	for name, drop := range drops {
		t.Run(name, func(t *testing.T) {
			c := newCache[string, int](t, 3)
			put(t, c, 1, "a", 1)
			put(t, c, 2, "b", 2)
			put(t, c, 2, "c", 3)
			drop(c)
			wantLen(t, c, 2)
			wantNone(t, c, 1, "a")
			put(t, c, 1, "a", 4)
			wantGet(t, c, 1, "a", 4)
			put(t, c, 2, "d", 5)
			wantNone(t, c, 2, "b")
			put(t, c, 2, "e", 6)
			wantNone(t, c, 2, "c")
			wantGet(t, c, 1, "a", 4)
			put(t, c, 2, "f", 7)
			wantNone(t, c, 1, "a")
			wantLen(t, c, 3)
		})
	}
	c := newCache[string, int](t, 2)
	for _, key := range []string{"a", "b", "c", "a"} {
		put(t, c, 1, key, 1)
	}
	wantNone(t, c, 1, "b")
	put(t, c, 1, "d", 1)
	wantNone(t, c, 1, "c")
	wantGet(t, c, 1, "a", 1)
}

// Where one in the middle was dropped, there is room again, and the ages of the others stand.
func TestDropInTheMiddle(t *testing.T) {
	c := newCache[int, int](t, 3)
	for key := range 3 {
		put(t, c, 0, key, key)
	}
	if !c.Drop(0, 1) {
		t.Error("Drop(0, 1) = false")
	}
	put(t, c, 0, 3, 3)
	wantLen(t, c, 3)
	wantGet(t, c, 0, 0, 0)
	put(t, c, 0, 4, 4)
	wantNone(t, c, 0, 0)
	wantGet(t, c, 0, 2, 2)
	put(t, c, 0, 5, 5)
	wantNone(t, c, 0, 2)
	wantGet(t, c, 0, 3, 3)
}

func TestGetAndDrop(t *testing.T) {
	rows := []struct {
		name  string
		group int
		key   string
		was   bool
	}{
		{"kept", 1, "kept", true},
		{"never put", 1, "never", false},
		{"dropped", 1, "dropped", false},
		{"another group's", 2, "kept", false},
		{"of a group with none", -5, "kept", false},
		{"gone with its group", 3, "gone", false},
		{"gone as the oldest", 1, "oldest", false},
	}
	for _, row := range rows {
		t.Run(row.name, func(t *testing.T) {
			c := newCache[string, int](t, 4)
			put(t, c, 1, "oldest", 1)
			put(t, c, 1, "kept", 2)
			put(t, c, 1, "dropped", 3)
			put(t, c, 3, "gone", 4)
			put(t, c, 2, "other", 5)
			if !c.Drop(1, "dropped") || c.DropGroup(3) != 1 {
				t.Fatal("what was kept is not told as dropped")
			}
			wantLen(t, c, 2)
			if row.was {
				wantGet(t, c, row.group, row.key, 2)
			} else {
				wantNone(t, c, row.group, row.key)
			}
			wantLen(t, c, 2)
			if was := c.Drop(row.group, row.key); was != row.was {
				t.Errorf("Drop(%d, %s) = %v", row.group, row.key, was)
			}
			wantNone(t, c, row.group, row.key)
			if row.was {
				wantLen(t, c, 1)
			} else {
				wantLen(t, c, 2)
				wantGet(t, c, 1, "kept", 2)
			}
			wantGet(t, c, 2, "other", 5)
			if c.Drop(row.group, row.key) {
				t.Error("dropped twice")
			}
		})
	}
}

func TestDropGroup(t *testing.T) {
	rows := []struct {
		name   string
		groups []int // of what is put, in order; the key is the place in this list
		drop   int
		want   int
	}{
		{"of none in an empty cache", nil, 0, 0},
		{"of none", []int{1, 2, 3}, 4, 0},
		{"of the oldest", []int{1, 2, 3}, 1, 1},
		{"of the newest", []int{1, 2, 3}, 3, 1},
		{"of some", []int{1, 2, 1, 2, 1}, 1, 3},
		{"of the others", []int{1, 2, 1, 2, 1}, 2, 2},
		{"of all", []int{1, 1, 1, 1}, 1, 4},
		{"of all but one", []int{1, 1, 2, 1}, 1, 3},
		{"of what went as the oldest", []int{1, 2, 2, 2, 2, 2, 2}, 1, 0},
		{"of what went in part", []int{1, 1, 2, 2, 2, 2, 1}, 1, 2},
	}
	for _, row := range rows {
		t.Run(row.name, func(t *testing.T) {
			const room = 6
			c := newCache[int, int](t, room)
			for key, group := range row.groups {
				put(t, c, group, key, -key)
			}
			kept := min(room, len(row.groups))
			wantLen(t, c, kept)
			if n := c.DropGroup(row.drop); n != row.want {
				t.Errorf("DropGroup(%d) = %d; want %d", row.drop, n, row.want)
			}
			wantLen(t, c, kept-row.want)
			for key, group := range row.groups {
				if group == row.drop || key < len(row.groups)-room {
					wantNone(t, c, group, key)
				} else {
					wantGet(t, c, group, key, -key)
				}
			}
			if n := c.DropGroup(row.drop); n != 0 {
				t.Errorf("DropGroup again = %d; want 0", n)
			}
		})
	}
}

// Where a group is gone, the ages of the others stand.
func TestDropGroupKeepsAges(t *testing.T) {
	c := newCache[int, int](t, 4)
	for key, group := range []int{1, 2, 1, 2} {
		put(t, c, group, key, key)
	}
	if n := c.DropGroup(1); n != 2 {
		t.Errorf("DropGroup(1) = %d; want 2", n)
	}
	put(t, c, 1, 4, 4)
	put(t, c, 1, 5, 5)
	wantLen(t, c, 4)
	for i, oldest := range []struct{ group, key int }{{2, 1}, {2, 3}, {1, 4}, {1, 5}} {
		wantGet(t, c, oldest.group, oldest.key, oldest.key)
		put(t, c, 3, i, i)
		wantNone(t, c, oldest.group, oldest.key)
		wantLen(t, c, 4)
	}
}

// Numbers of the whole range of int are groups, keys and values; none is another one.
func TestEdgeNumbers(t *testing.T) {
	c := newCache[int, int](t, 1024)
	for _, group := range edgeInts {
		for _, key := range edgeInts {
			wantNone(t, c, group, key)
			put(t, c, group, key, group^key)
		}
	}
	size := len(edgeInts) * len(edgeInts)
	wantLen(t, c, size)
	for _, group := range edgeInts {
		for _, key := range edgeInts {
			wantGet(t, c, group, key, group^key)
		}
		if !c.Drop(group, group) || c.Drop(group, group) {
			t.Errorf("Drop(%d, %d)", group, group)
		}
		if n := c.DropGroup(group); n != len(edgeInts)-1 {
			t.Errorf("DropGroup(%d) = %d", group, n)
		}
		size -= len(edgeInts)
		wantLen(t, c, size)
	}
}

func TestZeroKeysAndValues(t *testing.T) {
	c := newCache[string, int](t, 2)
	put(t, c, 0, "", 0)
	wantGet(t, c, 0, "", 0)
	wantNone(t, c, 1, "")
	wantLen(t, c, 1)
	put(t, c, 0, "", 3)
	wantGet(t, c, 0, "", 3)
	put(t, c, 0, "", 0)
	wantGet(t, c, 0, "", 0)
	wantLen(t, c, 1)
	if !c.Drop(0, "") {
		t.Error("a zero value was kept")
	}
	wantNone(t, c, 0, "")
}

func TestOtherTypes(t *testing.T) {
	type key struct {
		root int
		page [2]uint64
		user bool
	}
	structs := newCache[key, string](t, 2)
	put(t, structs, 0, key{}, "zero")
	put(t, structs, 0, key{root: 1, page: [2]uint64{2, math.MaxUint64}}, "one")
	put(t, structs, 0, key{user: true}, "user")
	wantNone(t, structs, 0, key{})
	wantGet(t, structs, 0, key{root: 1, page: [2]uint64{2, math.MaxUint64}}, "one")
	wantNone(t, structs, 0, key{root: 1, page: [2]uint64{3, math.MaxUint64}})
	wantGet(t, structs, 0, key{user: true}, "user")

	none := newCache[struct{}, struct{}](t, 3)
	wantNone(t, none, 0, struct{}{})
	put(t, none, 0, struct{}{}, struct{}{})
	wantGet(t, none, 0, struct{}{}, struct{}{})
	wantLen(t, none, 1)

	x, y := 1, 1
	pointers := newCache[*int, *int](t, 3)
	put(t, pointers, 0, &x, &y)
	put(t, pointers, 0, nil, nil)
	wantGet(t, pointers, 0, &x, &y)
	wantNone(t, pointers, 0, &y)
	wantGet(t, pointers, 0, nil, nil)

	lists := newCache[uint64, []int](t, 1)
	put(t, lists, 0, math.MaxUint64, []int{1, 2})
	if v, ok := lists.Get(0, math.MaxUint64); !slices.Equal(v, []int{1, 2}) || !ok {
		t.Error(v, ok)
	}
	if v, ok := lists.Get(0, 0); v != nil || ok {
		t.Error(v, ok)
	}
	put(t, lists, 0, math.MaxUint64, nil)
	if v, ok := lists.Get(0, math.MaxUint64); v != nil || !ok {
		t.Error(v, ok)
	}
}

// A float that is no number is the same key as no other one: each is kept as new, found by nobody, and goes as the oldest or with its group.
func TestKeysThatDifferFromThemselves(t *testing.T) {
	c := newCache[float64, int](t, 3)
	put(t, c, 0, 1, 10)
	for i := range 20 {
		put(t, c, 1, math.NaN(), i)
		wantLen(t, c, min(i+2, 3))
	}
	wantNone(t, c, 0, 1)
	wantNone(t, c, 1, math.NaN())
	if c.Drop(1, math.NaN()) {
		t.Error("Drop of what is never found")
	}
	wantLen(t, c, 3)
	put(t, c, 0, 0, 11)
	wantGet(t, c, 0, math.Copysign(0, -1), 11)
	wantLen(t, c, 3)
	if n := c.DropGroup(1); n != 2 {
		t.Errorf("DropGroup(1) = %d; want 2", n)
	}
	wantLen(t, c, 1)
	wantGet(t, c, 0, 0, 11)
}

// What can't be compared, held by an interface, is refused without a panic, and nothing changes.
func TestKeysThatCannotBeCompared(t *testing.T) {
	type pair struct {
		a float64
		b any
	}
	bad := []any{[]int{1}, []int(nil), map[int]int{}, func() {}, [1]any{[]int{}}, pair{1, []int{}}, pair{math.NaN(), []int{}}}
	c := newCache[any, int](t, 2)
	check := func(want int) {
		t.Helper()
		for _, key := range bad {
			if e := c.Put(1, key, 5); e != api.ErrArg {
				t.Errorf("Put of a %T = %d; want ErrArg", key, int(e))
			}
			if v, ok := c.Get(1, key); v != 0 || ok {
				t.Errorf("Get of a %T = %d, %v", key, v, ok)
			}
			if c.Drop(1, key) {
				t.Errorf("Drop of a %T = true", key)
			}
			wantLen(t, c, want)
		}
	}
	check(0)
	put[any](t, c, 1, nil, 1)
	put[any](t, c, 1, pair{1, 2}, 2)
	check(2)
	wantGet[any](t, c, 1, nil, 1)
	wantGet[any](t, c, 1, pair{1, 2}, 2)
	wantNone[any](t, c, 1, pair{1, int64(2)})
	if n := c.DropGroup(1); n != 2 {
		t.Errorf("DropGroup(1) = %d; want 2", n)
	}
}

// A cache that is nil, and one that New did not make, answer ErrNil and zero values, and keep nothing.
func TestNoCache(t *testing.T) {
	for name, c := range map[string]*Cache[string, int]{"nil": nil, "plain": {}} {
		t.Run(name, func(t *testing.T) {
			for _, group := range edgeInts {
				for _, key := range []string{"", "a"} {
					if e := c.Put(group, key, 1); e != api.ErrNil {
						t.Errorf("Put = %d; want ErrNil", int(e))
					}
					if v, ok := c.Get(group, key); v != 0 || ok {
						t.Errorf("Get = %d, %v", v, ok)
					}
					if c.Drop(group, key) {
						t.Error("Drop = true")
					}
				}
				if n := c.DropGroup(group); n != 0 {
					t.Errorf("DropGroup = %d", n)
				}
				if n := c.Len(); n != 0 {
					t.Errorf("Len = %d", n)
				}
			}
		})
	}
	var c *Cache[any, int]
	if e := c.Put(0, []int{}, 1); e != api.ErrNil {
		t.Errorf("Put of what can't be compared into nil = %d; want ErrNil first", int(e))
	}
}

// Two caches share nothing.
func TestApart(t *testing.T) {
	a, b := newCache[int, int](t, 2), newCache[int, int](t, 2)
	put(t, a, 0, 1, 10)
	wantNone(t, b, 0, 1)
	put(t, b, 0, 1, 20)
	wantGet(t, a, 0, 1, 10)
	a.DropGroup(0)
	wantGet(t, b, 0, 1, 20)
	wantLen(t, a, 0)
}

// model keeps what a cache must, in the plainest way: a list, the oldest first.
type model struct {
	room int
	rows []row
}

type row struct{ group, key, value int }

func (m *model) index(group, key int) int {
	return slices.IndexFunc(m.rows, func(r row) bool { return r.group == group && r.key == key })
}

func (m *model) put(group, key, value int) {
	if i := m.index(group, key); i >= 0 {
		m.rows[i].value = value
		return
	}
	m.rows = append(m.rows, row{group, key, value})
	if len(m.rows) > m.room {
		m.rows = m.rows[1:]
	}
}

func (m *model) drop(group, key int) bool {
	i := m.index(group, key)
	if i >= 0 {
		m.rows = slices.Delete(m.rows, i, i+1)
	}
	return i >= 0
}

func (m *model) dropGroup(group int) int {
	before := len(m.rows)
	m.rows = slices.DeleteFunc(m.rows, func(r row) bool { return r.group == group })
	return before - len(m.rows)
}

// scatter is a fixed row of numbers that looks like none.
type scatter uint64

func (s *scatter) below(n int) int {
	*s = *s*6364136223846793005 + 1442695040888963407
	return int(uint64(*s) >> 33 % uint64(n))
}

func TestScatterAgainstModel(t *testing.T) {
	groups := []int{math.MinInt, -1, 0, 1, math.MaxInt}
	for _, room := range []int{1, 2, 3, 7, 16, 40, 1024} {
		c := newCache[int, int](t, room)
		m := model{room: room}
		s := scatter(room)
		for step := range 6000 {
			group, key := groups[s.below(len(groups))], s.below(20)-10
			switch what := s.below(40); {
			case what == 0:
				if got, want := c.DropGroup(group), m.dropGroup(group); got != want {
					t.Fatalf("room %d, step %d: DropGroup(%d) = %d; want %d", room, step, group, got, want)
				}
			case what < 8:
				if got, want := c.Drop(group, key), m.drop(group, key); got != want {
					t.Fatalf("room %d, step %d: Drop(%d, %d) = %v; want %v", room, step, group, key, got, want)
				}
			default:
				value := s.below(3) - 1
				put(t, c, group, key, value)
				m.put(group, key, value)
			}
			compare(t, c, &m, groups)
			if t.Failed() {
				t.Fatalf("room %d, step %d", room, step)
			}
		}
	}
}

func compare(t *testing.T, c *Cache[int, int], m *model, groups []int) {
	t.Helper()
	wantLen(t, c, len(m.rows))
	for _, group := range groups {
		for key := -10; key < 10; key++ {
			if i := m.index(group, key); i >= 0 {
				wantGet(t, c, group, key, m.rows[i].value)
			} else {
				wantNone(t, c, group, key)
			}
		}
	}
}

// A great cache that is full, with many more keys than it has room for.
func TestScatterOfGreatRoom(t *testing.T) {
	c := newCache[int, int](t, 1024)
	m := model{room: 1024}
	s := scatter(5)
	for step := range 20000 {
		group, key := s.below(3), s.below(1000)
		if s.below(10) == 0 {
			if got, want := c.Drop(group, key), m.drop(group, key); got != want {
				t.Fatalf("step %d: Drop(%d, %d) = %v; want %v", step, group, key, got, want)
			}
		} else {
			put(t, c, group, key, step)
			m.put(group, key, step)
		}
		wantLen(t, c, len(m.rows))
	}
	for group := range 3 {
		for key := range 1000 {
			if i := m.index(group, key); i >= 0 {
				wantGet(t, c, group, key, m.rows[i].value)
			} else {
				wantNone(t, c, group, key)
			}
		}
	}
}
