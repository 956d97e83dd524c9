package skip

import (
	"bytes"
	"fmt"
	"math"
	"slices"
	"strings"
	"testing"
	"unsafe"

	"assart/api"
	"assart/region"
)

func mustPool(t *testing.T, size, slabs int) *region.Pool {
	t.Helper()
	p, e := region.New(size, slabs)
	want(t, "region.New", e, api.OK)
	return p
}

// mustNew makes a list that the test needs.
func mustNew(t *testing.T, p *region.Pool) *List {
	t.Helper()
	l, e := New(p)
	want(t, "New", e, api.OK)
	return l
}

// want: a call must have answered so.
func want(t *testing.T, what string, got, wanted api.Errno) {
	t.Helper()
	if got != wanted {
		t.Fatalf("%s: %d, want %d", what, got, wanted)
	}
}

func cell(key string, seq, kind int, val string) api.Cell {
	return api.Cell{Ver: api.Ver{Key: key, Seq: seq, Kind: kind}, Val: val}
}

// put inserts versions that the test needs.
func put(t *testing.T, l *List, height int, cells ...api.Cell) {
	t.Helper()
	for _, c := range cells {
		want(t, fmt.Sprint("Insert ", c.Ver), l.Insert(c, height), api.OK)
	}
}

// wantAt: a cursor stands at this cell.
func wantAt(t *testing.T, c *Cursor, wanted api.Cell) {
	t.Helper()
	if got, e := c.Cell(); got != wanted || e != api.OK {
		t.Fatalf("Cell: %v, %d, want %v", got, e, wanted)
	}
}

// wantEnd: a cursor stands at no cell.
func wantEnd(t *testing.T, c *Cursor) {
	t.Helper()
	if got, e := c.Cell(); got != (api.Cell{}) || e != api.ErrEnd {
		t.Fatalf("Cell: %v, %d, want none", got, e)
	}
}

// walk answers all cells that a cursor meets by its step.
func walk(t *testing.T, c *Cursor, begin, step func() api.Errno) []api.Cell {
	t.Helper()
	var cells []api.Cell
	e := begin()
	for e == api.OK {
		got, e2 := c.Cell()
		want(t, "Cell", e2, api.OK)
		cells = append(cells, got)
		e = step()
	}
	want(t, "the walk's end", e, api.ErrEnd)
	wantEnd(t, c)
	return cells
}

func forth(t *testing.T, l *List) []api.Cell {
	t.Helper()
	c := l.Cursor()
	return walk(t, c, c.First, c.Next)
}

func back(t *testing.T, l *List) []api.Cell {
	t.Helper()
	c := l.Cursor()
	return walk(t, c, c.Last, c.Prev)
}

// raw is all bytes of a pool, and whose they are.
func raw(t *testing.T, p *region.Pool) string {
	t.Helper()
	var s strings.Builder
	for i := 0; ; i++ {
		b, e := p.Raw(i)
		if e != api.OK {
			break
		}
		s.Write(b)
	}
	for number := range 256 {
		slabs, e := p.Slabs(number)
		if e == api.OK {
			fmt.Fprint(&s, number, slabs)
		}
	}
	return s.String()
}

// fill answers how many bytes of a region are handed out.
func fill(t *testing.T, p *region.Pool, number, gen int) int {
	t.Helper()
	slabs, e := p.Slabs(number)
	want(t, "Slabs", e, api.OK)
	for n := len(slabs) * p.Size(); n > 0; n-- {
		if _, e := p.Load(region.Handle{Region: number, Gen: gen, Off: n - 1, Len: 1}); e == api.OK {
			return n
		}
	}
	return 0
}

// P11.1: the chapter's example.
func TestExample(t *testing.T) {
	l := mustNew(t, mustPool(t, 2048, 1))
	x, y := cell("a", 2, 1, "x"), cell("a", 1, 1, "y")
	put(t, l, 1, x, y)
	for seq, wanted := range map[int]api.Cell{9: x, 2: x, 1: y} {
		if c, e := l.Get("a", seq); c != wanted || e != api.OK {
			t.Error(seq, c, e)
		}
	}
	if c, e := l.Get("a", 0); c != (api.Cell{}) || e != api.ErrMiss {
		t.Error(c, e)
	}
	c := l.Cursor()
	want(t, "First", c.First(), api.OK)
	wantAt(t, c, x)
	want(t, "Next", c.Next(), api.OK)
	wantAt(t, c, y)
	want(t, "Next", c.Next(), api.ErrEnd)
	wantEnd(t, c)
}

// P11.1: slabs of 2048 bytes are enough, of fewer not; a list without versions has a region, and no slab.
func TestNew(t *testing.T) {
	for _, size := range []int{64, 1024, 2040} {
		p := mustPool(t, size, 2)
		if l, e := New(p); l != nil || e != api.ErrArg {
			t.Error(size, l, e)
		}
		if number, _ := p.Make(); number != 0 {
			t.Error(size, number)
		}
	}
	for _, size := range []int{2048, 2056, 65536} {
		p := mustPool(t, size, 2)
		l := mustNew(t, p)
		if slabs, e := p.Slabs(0); len(slabs) != 0 || e != api.OK || p.Idle() != 2 {
			t.Error(size, slabs, e, p.Idle())
		}
		if l.Count() != 0 || l.Weight() != 0 || len(forth(t, l)) != 0 || len(back(t, l)) != 0 {
			t.Error(size, l.Count(), l.Weight())
		}
	}
	for _, p := range []*region.Pool{nil, {}} {
		if l, e := New(p); l != nil || e != api.ErrArg {
			t.Error(l, e)
		}
	}
}

// P11.1: each list takes a region, as long as there is one.
func TestNewWithoutRegions(t *testing.T) {
	p := mustPool(t, 2048, 1)
	lists := make([]*List, 256)
	for i := range lists {
		lists[i] = mustNew(t, p)
	}
	if l, e := New(p); l != nil || e != api.ErrSpace {
		t.Error(l, e)
	}
	want(t, "Free", lists[17].Free(), api.OK)
	mustNew(t, p)
	if l, e := New(p); l != nil || e != api.ErrSpace {
		t.Error(l, e)
	}
}

// taken are cells at the limits that a list takes; refused are others, and why it doesn't.
func taken() []api.Cell {
	return []api.Cell{
		cell("k", 0, 0, ""), cell("k", 0, 1, ""), cell("k", 1<<56-1, 0, "v"), cell("k", 1<<56-1, 1, "w"),
		cell(strings.Repeat("\xff", 64), 5, 1, strings.Repeat("v", 1000)), cell("\x00", 5, 1, "\x00"),
		cell("k", 9, 0, "a value beside Del"), cell("kk", 9, 1, ""), cell("\xff", 1, 1, strings.Repeat("\x00", 999)),
	}
}

func refused() map[api.Errno][]api.Cell {
	return map[api.Errno][]api.Cell{
		api.ErrArg: {
			cell("", 5, 1, ""), cell(strings.Repeat("k", 65), 5, 1, ""), cell(strings.Repeat("k", 300), 5, 1, ""),
			cell("n", -1, 1, ""), cell("n", 1<<56, 1, ""), cell("n", math.MinInt, 1, ""), cell("n", math.MaxInt, 1, ""),
			cell("n", 5, -1, ""), cell("n", 5, 2, ""), cell("n", 5, 257, ""), cell("n", 5, math.MinInt, ""), cell("n", 5, math.MaxInt, ""),
		},
		api.ErrBig: {
			cell("n", 5, 1, strings.Repeat("v", 1001)), cell("n", 5, 0, strings.Repeat("v", 1001)), cell("n", 5, 1, strings.Repeat("v", 1<<20)),
		},
	}
}

var badHeights = []int{0, -1, -12, 13, 14, 256, 257, 1<<32 + 1, math.MinInt, math.MaxInt}

// P11.1: keys, numbers, kinds, values and heights up to their limits.
func TestInsert(t *testing.T) {
	for height := 1; height <= 12; height++ {
		l := mustNew(t, mustPool(t, 2048, 9))
		weight := 0
		for i, c := range taken() {
			want(t, fmt.Sprint(height, c.Ver), l.Insert(c, height), api.OK)
			weight += len(c.Key) + len(c.Val) + 8
			if got, e := l.Get(c.Key, c.Seq); e != api.OK || got.Key != c.Key || got.Seq != c.Seq || l.Count() != i+1 || l.Weight() != weight {
				t.Error(height, c, got, e, l.Count(), l.Weight())
			}
		}
		cells := taken()
		slices.SortFunc(cells, func(a, b api.Cell) int { return order(a.Ver, b.Ver) })
		if got := forth(t, l); !slices.Equal(got, cells) {
			t.Error(height, got)
		}
	}
}

// P11.1: of several errors the first one is answered, in the order ErrOver, ErrArg, ErrBig, ErrThere, ErrSpace.
func TestInsertErrors(t *testing.T) {
	big := strings.Repeat("v", 1001)
	p := mustPool(t, 2048, 1)
	l := mustNew(t, p)
	there := cell("there", 1, 1, "")
	put(t, l, 12, there, cell("fills", 1, 1, strings.Repeat("v", 1000)), cell("fills", 2, 1, strings.Repeat("v", 700)))
	want(t, "no room", l.Insert(cell("n", 1, 1, strings.Repeat("v", 1000)), 12), api.ErrSpace)
	want(t, "there, and no room", l.Insert(cell("there", 1, 1, strings.Repeat("v", 1000)), 12), api.ErrThere)
	want(t, "big, and there", l.Insert(cell("there", 1, 1, big), 12), api.ErrBig)
	for e, cells := range refused() {
		for _, c := range cells {
			want(t, fmt.Sprint(c.Ver), l.Insert(c, 12), e)
		}
	}
	for _, height := range badHeights {
		want(t, fmt.Sprint(height), l.Insert(cell("n", 1, 1, ""), height), api.ErrArg)
		want(t, "height, and big", l.Insert(cell("n", 1, 1, big), height), api.ErrArg)
		want(t, "height, and there", l.Insert(there, height), api.ErrArg)
	}
	want(t, "no version, and big", l.Insert(cell("", 1, 1, big), 1), api.ErrArg)
	for what, end := range []func(){l.Freeze, func() { l.Free() }} {
		end()
		for e, cells := range refused() {
			for _, c := range cells {
				want(t, fmt.Sprint(what, e), l.Insert(c, 1), api.ErrOver)
			}
		}
		want(t, "over, and height", l.Insert(cell("n", 1, 1, ""), 0), api.ErrOver)
		want(t, "over, and there", l.Insert(there, 1), api.ErrOver)
		want(t, "over", l.Insert(cell("n", 1, 1, ""), 1), api.ErrOver)
	}
}

// P11.1: a version is there when its key, its number and its kind are; its value and its tower say nothing.
func TestThere(t *testing.T) {
	l := mustNew(t, mustPool(t, 2048, 1))
	put(t, l, 3, cell("a", 5, 1, "x"))
	for height := 1; height <= 12; height++ {
		want(t, "same", l.Insert(cell("a", 5, 1, "other"), height), api.ErrThere)
	}
	put(t, l, 1, cell("a", 5, 0, "y"), cell("a", 4, 1, "x"), cell("a", 6, 1, "x"), cell("ab", 5, 1, "x"), cell("A", 5, 1, "x"))
	for _, c := range forth(t, l) {
		want(t, fmt.Sprint(c), l.Insert(cell(c.Key, c.Seq, c.Kind, "z"), 2), api.ErrThere)
	}
	if c, e := l.Get("a", 5); c != cell("a", 5, 1, "x") || e != api.OK {
		t.Error(c, e)
	}
}

// P11.2: a refused Insert changes neither what the list tells nor the pool.
func TestRefusedChangesNothing(t *testing.T) {
	p := mustPool(t, 2048, 3)
	l := mustNew(t, p)
	put(t, l, 4, cell("b", 3, 1, "x"), cell("b", 2, 0, ""), cell("d", 4, 1, strings.Repeat("v", 900)))
	fillUp(t, l)
	tell := func() string {
		return fmt.Sprint(l.Count(), l.Weight(), forth(t, l), back(t, l)) + raw(t, p)
	}
	c := l.Cursor()
	want(t, "Next", c.Next(), api.OK)
	at, _ := c.Cell()
	ahead := tell()
	same := func(what string, c api.Cell, height int, wanted api.Errno) {
		t.Helper()
		want(t, what, l.Insert(c, height), wanted)
		if tell() != ahead {
			t.Fatal(what)
		}
	}
	for e, cells := range refused() {
		for _, c := range cells {
			same(fmt.Sprint(c.Ver), c, 7, e)
		}
	}
	for _, height := range badHeights {
		same(fmt.Sprint(height), cell("n", 1, 1, ""), height, api.ErrArg)
	}
	for height := 1; height <= 12; height++ {
		same("there", cell("b", 3, 1, "other"), height, api.ErrThere)
		same("no room", cell("c", 1, 1, strings.Repeat("v", 1000)), height, api.ErrSpace)
	}
	l.Freeze()
	same("frozen", cell("n", 1, 1, ""), 1, api.ErrOver)
	wantAt(t, c, at)
}

// fillUp inserts versions till the pool has no room for a great one.
func fillUp(t *testing.T, l *List) {
	t.Helper()
	for i := 0; ; i++ {
		e := l.Insert(cell("f", i, 1, strings.Repeat("v", 1000)), 1+i%12)
		if e == api.ErrSpace {
			return
		}
		want(t, "Insert", e, api.OK)
	}
}

// P11.1, P11.3: where no slab is idle there is no room, but in the list's own slabs; another list that is freed makes room.
func TestSpace(t *testing.T) {
	p := mustPool(t, 2048, 4)
	l, other := mustNew(t, p), mustNew(t, p)
	put(t, other, 1, cell("o", 1, 1, "of the other one"))
	fillUp(t, l)
	if p.Idle() != 0 {
		t.Error(p.Idle())
	}
	count := l.Count()
	put(t, l, 1, cell("small", 1, 1, ""))
	want(t, "Insert", l.Insert(cell("f", 1000, 1, strings.Repeat("v", 1000)), 1), api.ErrSpace)
	put(t, other, 1, cell("o", 2, 1, strings.Repeat("v", 1000)))
	want(t, "Free", other.Free(), api.OK)
	if p.Idle() != 1 {
		t.Error(p.Idle())
	}
	put(t, l, 1, cell("f", 1000, 1, strings.Repeat("v", 1000)))
	if l.Count() != count+2 || len(forth(t, l)) != count+2 || p.Idle() != 0 {
		t.Error(l.Count(), count)
	}
}

// P11.1: a node has at most 104 bytes more than its key and value, and 8 for each link: the pieces of a region that hands out so many take no fewer slabs.
func TestNodeSize(t *testing.T) {
	for _, key := range []int{1, 2, 63, 64} {
		for _, val := range []int{0, 1, 255, 256, 1000} {
			for height := 1; height <= 12; height++ {
				p := mustPool(t, 2048, 1)
				put(t, mustNew(t, p), height, cell(strings.Repeat("k", key), 1<<56-1, 1, strings.Repeat("v", val)))
				if n := fill(t, p, 0, 1); n > 104+key+val+8*height || n < key+val {
					t.Error(key, val, height, n)
				}
			}
		}
	}
	for seed := range 20 {
		d := drawn(seed)
		p := mustPool(t, 2048, 100)
		l := mustNew(t, p)
		twin, _ := p.Make()
		for i := range 150 {
			c := cell(strings.Repeat("k", 1+d.below(64)), i, d.below(2), strings.Repeat("v", d.below(400)))
			height := 1 + d.below(12)
			put(t, l, height, c)
			_, e := p.Alloc(twin, 104+len(c.Key)+len(c.Val)+8*height, 1)
			want(t, "Alloc", e, api.OK)
			of, _ := p.Slabs(0)
			if most, _ := p.Slabs(twin); len(of) > len(most) {
				t.Fatal(seed, i, of, most)
			}
		}
	}
}

// P11.1: slabs are taken as nodes need them, all for the list's one region.
func TestSlabsAsNeeded(t *testing.T) {
	p := mustPool(t, 2048, 10)
	l := mustNew(t, p)
	for i := range 20 {
		put(t, l, 12, cell("k", i, 1, strings.Repeat("v", 800)))
		if slabs, e := p.Slabs(0); len(slabs) != i/2+1 || e != api.OK || p.Idle() != 9-i/2 {
			t.Error(i, slabs, e, p.Idle())
		}
	}
	if slabs, e := p.Slabs(1); slabs != nil || e != api.ErrMiss {
		t.Error(slabs, e)
	}
}

// P11.1: what a list tells of a version comes from its region: who changes bytes there changes it, and who frees it takes it.
func TestToldFromRegion(t *testing.T) {
	p := mustPool(t, 2048, 2)
	l := mustNew(t, p)
	put(t, l, 2, cell("some key", 3, 1, "some value"), cell("z", 1, 1, "last"))
	h := region.Handle{Region: 0, Gen: 1, Len: fill(t, p, 0, 1)}
	for _, s := range []string{"some value", "some key"} {
		b, e := p.Load(h)
		want(t, "Load", e, api.OK)
		at := bytes.Index(b, []byte(s))
		if at < 0 {
			t.Fatal(s)
		}
		want(t, "Store", p.Store(h, at, []byte("s0me")), api.OK)
	}
	if c, e := l.Get("s0me key", 9); c != cell("s0me key", 3, 1, "s0me value") || e != api.OK {
		t.Error(c, e)
	}
	if got := forth(t, l); !slices.Equal(got, []api.Cell{cell("s0me key", 3, 1, "s0me value"), cell("z", 1, 1, "last")}) {
		t.Error(got)
	}
	c := l.Cursor()
	want(t, "Next", c.Next(), api.OK)
	want(t, "region.Free", p.Free(0), api.OK)
	gone := func() {
		t.Helper()
		if x, e := l.Get("z", 9); x != (api.Cell{}) || e != api.ErrStale {
			t.Error(x, e)
		}
		if x, e := c.Cell(); x != (api.Cell{}) || e != api.ErrStale {
			t.Error(x, e)
		}
		for what := 1; what < 5; what++ {
			want(t, fmt.Sprint(what), do(c, what, api.Ver{Key: "a"}), api.ErrStale)
		}
		want(t, "Insert", l.Insert(cell("n", 1, 1, ""), 1), api.ErrStale)
	}
	gone()
	other := mustNew(t, p)
	put(t, other, 2, cell("some key", 3, 1, "some value"), cell("z", 1, 1, "last"))
	gone()
}

// P1: bytes that are no node's aren't taken for one.
func TestNodeForm(t *testing.T) {
	links := []place{{1, 2}, {}, {1<<22 - 1264, 1264}}
	for height := range 4 {
		for _, c := range taken() {
			whole := nodeBytes(c, links[:height])
			n, e := nodeOf(whole)
			want(t, "nodeOf", e, api.OK)
			if n.cell() != c || !slices.Equal(n.links[:height], links[:height]) || n.links[height] != none() {
				t.Error(height, c, n)
			}
			for end := range 2 + 8*height + len(c.Key) + 8 {
				if n, e := nodeOf(whole[:end]); n.ver != (api.Ver{}) || n.val != nil || n.links != (tower{}) || e != api.ErrForm {
					t.Error(height, c.Ver, end, n, e)
				}
			}
			for _, more := range []byte{13, 14, 200, 255} {
				long := nodeBytes(cell(c.Key, c.Seq, c.Kind, strings.Repeat("\x01", 3000)), links[:height])
				long[0] = more
				if _, e := nodeOf(long); e != api.ErrForm {
					t.Error(more, e)
				}
			}
		}
	}
	whole := nodeBytes(cell("k", 1, 1, strings.Repeat("v", 100)), nil)
	for _, size := range []byte{0, 1, 8, 73, 80, 110, 255} {
		whole[1] = size
		if _, e := nodeOf(whole); e != api.ErrForm {
			t.Error(size, e)
		}
	}
}

// P11.1: on each level the nodes whose towers are that high are linked in their order.
func TestTowers(t *testing.T) {
	for seed := range 10 {
		l := mustNew(t, mustPool(t, 4096, 60))
		d := drawn(seed)
		heights := map[api.Ver]int{}
		for range 300 {
			v, height := api.Ver{Key: fmt.Sprint(d.below(80)), Seq: d.below(4)}, 1+d.below(12)
			if l.Insert(api.Cell{Ver: v}, height) == api.OK {
				heights[v] = height
			}
		}
		for level := range 12 {
			var wanted, got []api.Ver
			for _, c := range forth(t, l) {
				if heights[c.Ver] > level {
					wanted = append(wanted, c.Ver)
				}
			}
			for at := l.front[level]; at != none(); {
				n, e := l.load(at)
				want(t, "load", e, api.OK)
				got, at = append(got, n.ver), n.links[level]
			}
			if !slices.Equal(got, wanted) {
				t.Error(seed, level, got, wanted)
			}
		}
	}
}

// P1: whatever somebody else stores over a list's nodes, every call ends, and none panics.
func TestBentNodes(t *testing.T) {
	for seed := range 3000 {
		d := drawn(seed)
		p := mustPool(t, 2048, 4)
		l := mustNew(t, p)
		for i := range 12 {
			put(t, l, d.height(), cell(fmt.Sprint("k", d.below(20)), i, 1, strings.Repeat("v", d.below(120))))
		}
		h := region.Handle{Region: 0, Gen: 1, Len: fill(t, p, 0, 1)}
		whole, _ := p.Load(h)
		for range 1 + d.below(6) {
			b := []byte{byte([]int{0, 1, 2, 12, 13, 255, d.below(256)}[d.below(7)])}
			if n := d.below(8); n == 0 {
				// A link, or more, of another node.
				from := d.below(h.Len - 8)
				b = whole[from : from+8]
			}
			want(t, "Store", p.Store(h, d.below(h.Len-8), b), api.OK)
		}
		c := l.Cursor()
		for range 30 {
			v := d.any()
			if d.below(2) == 0 {
				v.Key = fmt.Sprint("k", d.below(20))
			}
			l.Get(v.Key, v.Seq)
			do(c, d.below(5), v)
			c.Cell()
			l.Insert(api.Cell{Ver: v}, d.height())
		}
	}
}

// P1: links that lead round are no way on for good.
func TestLinksRound(t *testing.T) {
	p := mustPool(t, 2048, 1)
	l := mustNew(t, p)
	put(t, l, 1, cell("a", 1, 1, ""), cell("b", 1, 1, ""))
	// From b to a; and from a to itself.
	for _, from := range []place{nextOf(t, l, l.front[0]), l.front[0]} {
		want(t, "link", l.link(from, 0, l.front[0]), api.OK)
		if c, e := l.Get("z", 1); c != (api.Cell{}) || e != api.ErrForm {
			t.Error(c, e)
		}
		c := l.Cursor()
		if c.Last() != api.ErrForm || c.Seek(api.Ver{Key: "z"}) != api.ErrForm || l.Insert(cell("z", 1, 1, ""), 1) != api.ErrForm {
			t.Error("links round")
		}
		wantEnd(t, c)
	}
}

// nextOf answers what the node at a place is linked to on level 0.
func nextOf(t *testing.T, l *List, at place) place {
	t.Helper()
	n, e := l.load(at)
	want(t, "load", e, api.OK)
	return n.links[0]
}

// P11.1: the newest version of a key up to a number, and no other key's.
func TestGet(t *testing.T) {
	for height := 1; height <= 12; height += 3 {
		l := mustNew(t, mustPool(t, 2048, 4))
		if c, e := l.Get("", 0); c != (api.Cell{}) || e != api.ErrMiss {
			t.Error(c, e)
		}
		put(t, l, height, cell("b", 5, 1, "five"), cell("b", 8, 0, ""), cell("b", 2, 0, "two"), cell("b", 5, 0, "gone"), cell("a", 1, 1, "a"), cell("b\x00", 7, 1, "other"), cell("c", 1<<56-1, 1, "last"), cell("d", 0, 0, "nought"))
		for _, x := range []struct {
			key    string
			seq    int
			wanted api.Cell
		}{
			{"b", 9, cell("b", 8, 0, "")}, {"b", 8, cell("b", 8, 0, "")}, {"b", 7, cell("b", 5, 1, "five")}, {"b", 5, cell("b", 5, 1, "five")},
			{"b", 4, cell("b", 2, 0, "two")}, {"b", 2, cell("b", 2, 0, "two")}, {"b", math.MaxInt, cell("b", 8, 0, "")}, {"a", 1, cell("a", 1, 1, "a")},
			{"c", 1<<56 - 1, cell("c", 1<<56-1, 1, "last")}, {"c", 1 << 56, cell("c", 1<<56-1, 1, "last")}, {"d", 0, cell("d", 0, 0, "nought")}, {"b\x00", 7, cell("b\x00", 7, 1, "other")},
		} {
			if c, e := l.Get(x.key, x.seq); c != x.wanted || e != api.OK {
				t.Error(x.key, x.seq, c, e)
			}
		}
		for _, v := range []api.Ver{
			{Key: "b", Seq: 1}, {Key: "b", Seq: -1}, {Key: "b", Seq: math.MinInt}, {Key: "a", Seq: 0}, {Key: "b\x00", Seq: 6}, {Key: "c", Seq: 1<<56 - 2}, {Key: "d", Seq: -1},
			{Key: "", Seq: 9}, {Key: "", Seq: -9}, {Key: "aa", Seq: 9}, {Key: "b\x00\x00", Seq: 9}, {Key: "e", Seq: 9}, {Key: strings.Repeat("b", 65), Seq: 9},
		} {
			if c, e := l.Get(v.Key, v.Seq); c != (api.Cell{}) || e != api.ErrMiss {
				t.Error(v, c, e)
			}
		}
	}
}

// P11.1: where a cursor stands on a list without versions, and that it meets from there what is inserted.
func TestCursorOnNothing(t *testing.T) {
	for what := range 5 {
		l := mustNew(t, mustPool(t, 2048, 1))
		c := l.Cursor()
		wantEnd(t, c)
		want(t, fmt.Sprint(what), do(c, what, api.Ver{Key: "a"}), api.ErrEnd)
		wantEnd(t, c)
		put(t, l, 1, cell("a", 1, 1, "x"), cell("b", 1, 1, "y"))
		// First, Seek and Next go behind all, Last and Prev ahead of all.
		away, to, wanted := c.Next, c.Prev, cell("b", 1, 1, "y")
		if what == 1 || what == 4 {
			away, to, wanted = c.Prev, c.Next, cell("a", 1, 1, "x")
		}
		want(t, fmt.Sprint(what), away(), api.ErrEnd)
		wantEnd(t, c)
		want(t, fmt.Sprint(what), to(), api.OK)
		wantAt(t, c, wanted)
	}
}

// P11.1: forth to the end and back from it, and beyond both.
func TestCursorEnds(t *testing.T) {
	l := mustNew(t, mustPool(t, 2048, 1))
	a, b := cell("a", 1, 1, "x"), cell("b", 1, 0, "y")
	put(t, l, 2, b, a)
	c := l.Cursor()
	want(t, "Prev ahead of all", c.Prev(), api.ErrEnd)
	for _, wanted := range []api.Cell{a, b} {
		want(t, "Next", c.Next(), api.OK)
		wantAt(t, c, wanted)
	}
	for range 3 {
		want(t, "Next", c.Next(), api.ErrEnd)
		wantEnd(t, c)
	}
	for _, wanted := range []api.Cell{b, a} {
		want(t, "Prev", c.Prev(), api.OK)
		wantAt(t, c, wanted)
	}
	for range 3 {
		want(t, "Prev", c.Prev(), api.ErrEnd)
		wantEnd(t, c)
	}
	want(t, "Next", c.Next(), api.OK)
	wantAt(t, c, a)
	want(t, "Last", c.Last(), api.OK)
	wantAt(t, c, b)
	want(t, "First", c.First(), api.OK)
	wantAt(t, c, a)
	// From behind all, First, Last and Seek stand at versions again.
	for what, wanted := range []api.Cell{a, b, a} {
		want(t, "Seek", c.Seek(api.Ver{Key: "z"}), api.ErrEnd)
		want(t, fmt.Sprint(what), do(c, what, api.Ver{Key: "a", Seq: 2}), api.OK)
		wantAt(t, c, wanted)
		want(t, "Next", c.Next(), [...]api.Errno{api.OK, api.ErrEnd, api.OK}[what])
	}
}

// P11.1: Seek goes by the versions' order, for what is no version, too.
func TestSeek(t *testing.T) {
	l := mustNew(t, mustPool(t, 2048, 1))
	cells := []api.Cell{cell("a", 7, 1, ""), cell("a", 7, 0, ""), cell("a", 3, 1, ""), cell("ab", 9, 0, ""), cell("b", 0, 1, ""), cell("b", 0, 0, "")}
	for i := range cells {
		put(t, l, 1+i, cells[(i*5)%6])
	}
	c := l.Cursor()
	for v, wanted := range map[api.Ver]int{
		{Key: "", Seq: 0}: 0, {Key: "", Seq: -5, Kind: 9}: 0, {Key: "A", Seq: 3}: 0,
		{Key: "a", Seq: 1 << 60}: 0, {Key: "a", Seq: 8}: 0, {Key: "a", Seq: 7, Kind: 2}: 0, {Key: "a", Seq: 7, Kind: 1}: 0,
		{Key: "a", Seq: 7, Kind: 0}: 1, {Key: "a", Seq: 7, Kind: -1}: 2, {Key: "a", Seq: 7, Kind: math.MinInt}: 2, {Key: "a", Seq: 6, Kind: 1}: 2,
		{Key: "a", Seq: 3, Kind: math.MaxInt}: 2, {Key: "a", Seq: 3}: 3, {Key: "a", Seq: math.MinInt}: 3, {Key: "aa", Seq: 0}: 3,
		{Key: "ab", Seq: 9, Kind: 0}: 3, {Key: "ab", Seq: 8, Kind: 1}: 4, {Key: "a" + strings.Repeat("c", 100), Seq: 1}: 4,
		{Key: "b", Seq: 0, Kind: 1}: 4, {Key: "b", Seq: 0, Kind: 0}: 5, {Key: "b", Seq: 0, Kind: -1}: 6, {Key: "b", Seq: -1, Kind: 1}: 6, {Key: "c", Seq: 9}: 6,
	} {
		e := c.Seek(v)
		if wanted == len(cells) {
			want(t, fmt.Sprint(v), e, api.ErrEnd)
			wantEnd(t, c)
			want(t, "Prev from behind all", c.Prev(), api.OK)
			wantAt(t, c, cells[5])
			continue
		}
		want(t, fmt.Sprint(v), e, api.OK)
		wantAt(t, c, cells[wanted])
	}
}

// P11.1: a cursor meets what is inserted while it stands, ahead of it and behind it.
func TestInsertUnderCursor(t *testing.T) {
	for height := 1; height <= 12; height++ {
		l := mustNew(t, mustPool(t, 2048, 2))
		put(t, l, 3, cell("m", 5, 1, "mid"))
		ahead, at, behind := l.Cursor(), l.Cursor(), l.Cursor()
		want(t, "First", at.First(), api.OK)
		want(t, "Seek", behind.Seek(api.Ver{Key: "z"}), api.ErrEnd)
		put(t, l, height, cell("m", 6, 1, "newer"), cell("m", 4, 1, "elder"), cell("a", 1, 1, ""), cell("z", 1, 1, ""))
		wantEnd(t, ahead)
		wantAt(t, at, cell("m", 5, 1, "mid"))
		wantEnd(t, behind)
		want(t, "Next", ahead.Next(), api.OK)
		wantAt(t, ahead, cell("a", 1, 1, ""))
		want(t, "Prev", behind.Prev(), api.OK)
		wantAt(t, behind, cell("z", 1, 1, ""))
		want(t, "Next", at.Next(), api.OK)
		wantAt(t, at, cell("m", 4, 1, "elder"))
		for _, wanted := range []string{"mid", "newer"} {
			want(t, "Prev", at.Prev(), api.OK)
			if c, _ := at.Cell(); c.Val != wanted {
				t.Error(c)
			}
		}
	}
}

// P11.1: a frozen list takes no version, and answers all else as ahead.
func TestFreeze(t *testing.T) {
	l := mustNew(t, mustPool(t, 2048, 1))
	put(t, l, 2, cell("a", 1, 1, "x"), cell("b", 1, 1, "y"))
	for range 2 {
		l.Freeze()
		want(t, "Insert", l.Insert(cell("c", 1, 1, ""), 1), api.ErrOver)
		if c, e := l.Get("a", 1); c != cell("a", 1, 1, "x") || e != api.OK || l.Count() != 2 || l.Weight() != 20 {
			t.Error(c, e, l.Count(), l.Weight())
		}
		if len(forth(t, l)) != 2 || len(back(t, l)) != 2 {
			t.Error("a walk of what is frozen")
		}
	}
	want(t, "Free", l.Free(), api.OK)
	want(t, "Free", l.Free(), api.ErrOver)
}

// P11.3: behind Free all slabs are idle again, and poisoned; the list and its cursors are over, for good.
func TestFree(t *testing.T) {
	for _, versions := range []int{0, 1, 40} {
		p := mustPool(t, 2048, 30)
		other := mustNew(t, p)
		put(t, other, 2, cell("o", 1, 1, "other"))
		l := mustNew(t, p)
		for i := range versions {
			put(t, l, 1+i%12, cell("k", i, 1, strings.Repeat("v", 900)))
		}
		at, ahead := l.Cursor(), l.Cursor()
		at.Last()
		slabs, _ := p.Slabs(1)
		if len(slabs) != (versions+1)/2 {
			t.Error(versions, slabs)
		}
		want(t, "Free", l.Free(), api.OK)
		if p.Idle() != 29 {
			t.Error(versions, p.Idle())
		}
		for _, slab := range slabs {
			if b, _ := p.Raw(slab); !bytes.Equal(b, bytes.Repeat([]byte{0xDD}, 2048)) {
				t.Error(slab)
			}
		}
		over(t, l, at, ahead, l.Cursor())
		// The same region, made anew, isn't taken for the old one.
		anew := mustNew(t, p)
		put(t, anew, 2, cell("k", 1, 1, "new"))
		over(t, l, at, ahead, l.Cursor())
		if got := forth(t, anew); !slices.Equal(got, []api.Cell{cell("k", 1, 1, "new")}) {
			t.Error(got)
		}
		if got := forth(t, other); !slices.Equal(got, []api.Cell{cell("o", 1, 1, "other")}) {
			t.Error(got)
		}
	}
}

// over: a list was freed, and these are cursors on it.
func over(t *testing.T, l *List, cursors ...*Cursor) {
	t.Helper()
	l.Freeze()
	want(t, "Free", l.Free(), api.ErrOver)
	want(t, "Insert", l.Insert(cell("n", 1, 1, ""), 1), api.ErrOver)
	for _, key := range []string{"k", "", "n"} {
		if c, e := l.Get(key, 9); c != (api.Cell{}) || e != api.ErrOver {
			t.Error(c, e)
		}
	}
	if l.Count() != 0 || l.Weight() != 0 {
		t.Error(l.Count(), l.Weight())
	}
	for _, c := range cursors {
		for what := range 5 {
			want(t, fmt.Sprint(what), do(c, what, api.Ver{Key: "k"}), api.ErrStale)
		}
		if x, e := c.Cell(); x != (api.Cell{}) || e != api.ErrStale {
			t.Error(x, e)
		}
	}
}

// P11.3: lists on one pool, filled and freed over and over, lose no slab and no region.
func TestFreeOverAndOver(t *testing.T) {
	p := mustPool(t, 2048, 6)
	for i := range 700 {
		l := mustNew(t, p)
		for j := range 1 + i%10 {
			put(t, l, 1+j, cell("k", j, 1, strings.Repeat("v", 900-i)))
		}
		if got := len(forth(t, l)); got != 1+i%10 {
			t.Fatal(i, got)
		}
		want(t, "Free", l.Free(), api.OK)
		if p.Idle() != 6 {
			t.Fatal(i, p.Idle())
		}
	}
}

// P11.1: lists on one pool don't meet.
func TestTwoLists(t *testing.T) {
	p := mustPool(t, 2048, 60)
	a, b := newPair(t, p), newPair(t, p)
	d := drawn(3)
	for range 300 {
		for _, l := range []*pair{a, b} {
			l.insert(api.Cell{Ver: d.ver(), Val: d.val()}, d.height())
			l.move(d.below(4), d.below(5), d.ver())
		}
	}
	a.look()
	b.look()
	want(t, "Free", a.l.Free(), api.OK)
	b.look()
}

// P1: nil lists and cursors, and such as New didn't make.
func TestNil(t *testing.T) {
	var l *List
	l.Freeze()
	want(t, "Insert", l.Insert(cell("a", 1, 1, ""), 1), api.ErrArg)
	want(t, "Insert", l.Insert(cell("", 1, 1, strings.Repeat("v", 1001)), 0), api.ErrArg)
	want(t, "Free", l.Free(), api.ErrArg)
	if c, e := l.Get("a", 1); c != (api.Cell{}) || e != api.ErrArg {
		t.Error(c, e)
	}
	if l.Count() != 0 || l.Weight() != 0 || l.Cursor() != nil {
		t.Error(l.Count(), l.Weight(), l.Cursor())
	}
	for _, c := range []*Cursor{nil, {}, l.Cursor()} {
		for what := range 5 {
			want(t, fmt.Sprint(what), do(c, what, api.Ver{Key: "a"}), api.ErrArg)
		}
		if x, e := c.Cell(); x != (api.Cell{}) || e != api.ErrArg {
			t.Error(x, e)
		}
	}
	zero := &List{}
	want(t, "Insert", zero.Insert(cell("a", 1, 1, ""), 1), api.ErrArg)
	want(t, "Free", zero.Free(), api.ErrArg)
	zero.Get("a", 1)
	for what := range 5 {
		do(zero.Cursor(), what, api.Ver{Key: "a"})
	}
}

// P11.1: what is handed in isn't kept, and answers share no memory.
func TestNewMemory(t *testing.T) {
	l := mustNew(t, mustPool(t, 2048, 1))
	key, val := []byte("some key"), []byte("some value")
	in := cell(unsafe.String(&key[0], len(key)), 1, 1, unsafe.String(&val[0], len(val)))
	put(t, l, 1, in)
	if string(key) != "some key" || string(val) != "some value" {
		t.Error(key, val)
	}
	copy(key, "other")
	copy(val, "other")
	a, e := l.Get("some key", 1)
	want(t, "Get", e, api.OK)
	b, _ := l.Get("some key", 1)
	c := l.Cursor()
	c.First()
	x, _ := c.Cell()
	y, _ := c.Cell()
	seen := map[*byte]bool{&key[0]: true, &val[0]: true}
	for _, got := range []api.Cell{a, b, x, y} {
		if got != cell("some key", 1, 1, "some value") {
			t.Error(got)
		}
		for _, s := range []string{got.Key, got.Val} {
			if seen[unsafe.StringData(s)] {
				t.Error("shared")
			}
			seen[unsafe.StringData(s)] = true
		}
	}
}

// P11.1: as many versions as a great pool has room for, with towers that make the way short.
func TestManyVersions(t *testing.T) {
	l := mustNew(t, mustPool(t, 65536, 64))
	d := drawn(11)
	const many = 20000
	for i := range many {
		put(t, l, d.height(), cell(fmt.Sprintf("%06d", i*7919%many), i%5, 1, fmt.Sprint(i)))
	}
	cells := forth(t, l)
	if l.Count() != many || len(cells) != many {
		t.Fatal(l.Count(), len(cells))
	}
	for i, c := range cells {
		if c.Key != fmt.Sprintf("%06d", i) {
			t.Fatal(i, c)
		}
	}
}
