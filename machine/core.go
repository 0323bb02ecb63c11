package machine

import (
	"slices"

	"palisade/api"
	"palisade/cache"
	"palisade/entry"
	"palisade/mem"
	"palisade/walk"
)

// room is how many translations a core keeps.
const room = 16

// rootStep is how far the keys of two roots lie apart: there are fewer pages, each from User and not.
const rootStep = 1 << 20

// heldBytes is how many bytes an address that is held stands for.
const heldBytes = 8

// core is a hart of the machine, and the bus that it steps with: what it loads is the memory's own, what it stores concerns all cores.
type core struct {
	*mem.Memory
	cores   []*core  // all of the machine's, itself among them
	context *Context // nil: it has none
	kept    *cache.Cache[int, walk.Found]
	places  []place // of all that are kept: the cache does not tell its keys
	held    uint64
	holds   bool // held does not tell it: 0 is an address
}

// place is where a translation is kept.
type place struct {
	guest int
	key   int
}

// newCores makes so many cores over a memory, none with a context.
func newCores(n int, memory *mem.Memory) []*core {
	cores := make([]*core, n)
	for i := range cores {
		kept, _ := cache.New[int, walk.Found](room)
		cores[i] = &core{Memory: memory, cores: cores, kept: kept}
	}
	return cores
}

// Translate tells the memory's address of a program's.
func (c *core) Translate(root int, at uint64, access int, user bool) (uint64, api.Trap) {
	page, trap := c.page(root, at, access, user)
	if trap != (api.Trap{}) {
		return 0, trap
	}
	return uint64(page.Frame)*api.Page + at%api.Page, api.Trap{}
}

// Store stores, and lets go of what any core holds there.
func (c *core) Store(at uint64, width int, v uint64) api.Errno {
	if e := c.Memory.Store(at, width, v); e != api.OK {
		return e
	}
	for _, other := range c.cores {
		if other.held/heldBytes == at/heldBytes {
			other.letGo()
		}
	}
	return api.OK
}

// Hold holds an address, in the place of one that was held.
func (c *core) Hold(at uint64) { c.held, c.holds = at, true }

// Held tells whether an address is held, and lets go, whichever was.
func (c *core) Held(at uint64) bool {
	is := c.holds && c.held == at
	c.letGo()
	return is
}

// letGo holds nothing any more.
func (c *core) letGo() { c.held, c.holds = 0, false }

// page tells the page of a program's address: as it is kept, if that allows the access, or as both stages' tables have it now.
func (c *core) page(root int, at uint64, access int, user bool) (walk.Found, api.Trap) {
	upper, lower, _, fits := entry.Split(at)
	if !fits {
		// The keys of such addresses would be others': the walk refuses them, and nothing is kept.
		return c.walk(root, at, access, user)
	}
	where := place{guest: c.context.Guest, key: key(root, upper*api.Slots+lower, user)}
	if page, ok := c.kept.Get(where.guest, where.key); ok && allows(page, access) {
		return page, api.Trap{}
	}
	page, trap := c.walk(root, at, access, user)
	if trap == (api.Trap{}) {
		c.keep(where, page)
	}
	return page, trap
}

// walk tells the page of a program's address by the tables.
func (c *core) walk(root int, at uint64, access int, user bool) (walk.Found, api.Trap) {
	return walk.Two(c.Memory, root, c.context.Root, at, access, user)
}

// key tells the key of a page's translation; root: the first stage's, -1: none.
func key(root, page int, user bool) int {
	k := (root+1)*rootStep + page*2
	if user {
		k++
	}
	return k
}

// allows tells whether a page that was found allows an access. Who asks is in the key already.
func allows(page walk.Found, access int) bool {
	switch access {
	case entry.Fetch:
		return page.Exec
	case entry.Load:
		return page.Read
	case entry.Store:
		return page.Write
	}
	return false
}

// keep keeps a translation.
func (c *core) keep(where place, page walk.Found) {
	if !c.isKept(where) {
		c.places = append(c.places, where)
	}
	c.kept.Put(where.guest, where.key, page)
	// Where there was no room the cache has dropped another.
	c.places = slices.DeleteFunc(c.places, func(p place) bool { return !c.isKept(p) })
}

// isKept tells whether a translation is kept.
func (c *core) isKept(where place) bool {
	_, is := c.kept.Get(where.guest, where.key)
	return is
}

// forget forgets a guest's translations, and tells how many there were.
func (c *core) forget(guest int) int {
	c.places = slices.DeleteFunc(c.places, func(p place) bool { return p.guest == guest })
	return c.kept.DropGroup(guest)
}

// frames tells the frames that a guest's translations name, each once, rising.
func (c *core) frames(guest int) []int {
	var frames []int
	for _, p := range c.places {
		if p.guest == guest {
			page, _ := c.kept.Get(p.guest, p.key)
			frames = append(frames, page.Frame)
		}
	}
	slices.Sort(frames)
	return slices.Compact(frames)
}
