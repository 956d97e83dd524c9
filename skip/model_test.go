package skip

import (
	"cmp"
	"fmt"
	"math"
	"slices"
	"strings"
	"testing"

	"assart/api"
	"assart/region"
)

// The model is a sorted row of cells, without towers, and without a pool that could be full.

// drawn answers numbers that look at random and are the same each time.
type drawn uint64

func (d *drawn) below(n int) int {
	*d = *d*6364136223846793005 + 1442695040888963407
	return int(uint64(*d)>>33) % n
}

// height answers one of a list's usual ones.
func (d *drawn) height() int {
	h := 1
	for h < 12 && d.below(3) == 0 {
		h++
	}
	return h
}

// key answers one of few, some of which begin others.
func (d *drawn) key() string {
	return []string{"a", "ab", "a\x00", "b", "b\xff", "\x00", "\xff\xff", "c", "ca", strings.Repeat("k", 64)}[d.below(10)]
}

// ver answers a version.
func (d *drawn) ver() api.Ver {
	seq := d.below(20)
	if d.below(10) == 0 {
		seq = 1<<56 - 1 - d.below(3)
	}
	return api.Ver{Key: d.key(), Seq: seq, Kind: d.below(2)}
}

// any answers what may be none.
func (d *drawn) any() api.Ver {
	v := d.ver()
	switch d.below(12) {
	case 0:
		v.Key = []string{"", strings.Repeat("k", 65), "zzz"}[d.below(3)]
	case 1:
		v.Seq = []int{-1, 1 << 56, math.MaxInt, math.MinInt}[d.below(4)]
	case 2:
		v.Kind = []int{-1, 2, math.MaxInt, math.MinInt}[d.below(4)]
	}
	return v
}

// val answers a value, a long one now and then.
func (d *drawn) val() string {
	size := d.below(12)
	if d.below(30) == 0 {
		size = 990 + d.below(13)
	}
	b := make([]byte, size)
	for i := range b {
		b[i] = byte(d.below(256))
	}
	return string(b)
}

// order is the versions', told anew.
func order(a, b api.Ver) int {
	return cmp.Or(strings.Compare(a.Key, b.Key), cmp.Compare(b.Seq, a.Seq), cmp.Compare(b.Kind, a.Kind))
}

type model struct {
	cells  []api.Cell
	frozen bool
	freed  bool
}

// from answers how many cells come ahead of a version.
func (m *model) from(v api.Ver) int {
	n := 0
	for n < len(m.cells) && order(m.cells[n].Ver, v) < 0 {
		n++
	}
	return n
}

func (m *model) insert(c api.Cell, height int) api.Errno {
	n := m.from(c.Ver)
	switch {
	case m.frozen, m.freed:
		return api.ErrOver
	case c.Key == "", len(c.Key) > 64, c.Seq < 0, c.Seq >= 1<<56, c.Kind != 0 && c.Kind != 1, height < 1, height > 12:
		return api.ErrArg
	case len(c.Val) > 1000:
		return api.ErrBig
	case n < len(m.cells) && m.cells[n].Ver == c.Ver:
		return api.ErrThere
	}
	m.cells = slices.Insert(m.cells, n, c)
	return api.OK
}

func (m *model) get(key string, seq int) (api.Cell, api.Errno) {
	if m.freed {
		return api.Cell{}, api.ErrOver
	}
	for _, c := range m.cells {
		if c.Key == key && c.Seq <= seq {
			return c, api.OK
		}
	}
	return api.Cell{}, api.ErrMiss
}

func (m *model) weight() int {
	n := 0
	for _, c := range m.cells {
		n += len(c.Key) + len(c.Val) + 8
	}
	return n
}

func (m *model) free() api.Errno {
	if m.freed {
		return api.ErrOver
	}
	*m = model{freed: true}
	return api.OK
}

// spot is the model's cursor: -1 ahead of all, 1 behind all, 0 at a version.
type spot struct {
	m    *model
	side int
	ver  api.Ver
}

// to takes it to a cell by its number.
func (s *spot) to(n int) api.Errno {
	switch {
	case n < 0:
		*s = spot{m: s.m, side: -1}
		return api.ErrEnd
	case n >= len(s.m.cells):
		*s = spot{m: s.m, side: 1}
		return api.ErrEnd
	}
	*s = spot{m: s.m, ver: s.m.cells[n].Ver}
	return api.OK
}

// at answers the number of its cell: -1 and how many there are at the ends.
func (s *spot) at() int {
	switch s.side {
	case -1:
		return -1
	case 1:
		return len(s.m.cells)
	}
	return s.m.from(s.ver)
}

func (s *spot) do(what int, v api.Ver) api.Errno {
	switch {
	case s.m.freed:
		return api.ErrStale
	case what == 0 && len(s.m.cells) == 0:
		return s.to(len(s.m.cells))
	case what == 0:
		return s.to(0)
	case what == 1:
		return s.to(len(s.m.cells) - 1)
	case what == 2:
		return s.to(s.m.from(v))
	case what == 3:
		return s.to(s.at() + 1)
	}
	return s.to(s.at() - 1)
}

func (s *spot) cell() (api.Cell, api.Errno) {
	switch {
	case s.m.freed:
		return api.Cell{}, api.ErrStale
	case s.side != 0:
		return api.Cell{}, api.ErrEnd
	}
	return s.m.cells[s.at()], api.OK
}

// do does one of a cursor's calls.
func do(c *Cursor, what int, v api.Ver) api.Errno {
	switch what {
	case 0:
		return c.First()
	case 1:
		return c.Last()
	case 2:
		return c.Seek(v)
	case 3:
		return c.Next()
	}
	return c.Prev()
}

// pair is a list and its model, with cursors.
type pair struct {
	t       *testing.T
	l       *List
	m       *model
	cursors []*Cursor
	spots   []*spot
}

func newPair(t *testing.T, p *region.Pool) *pair {
	t.Helper()
	a := &pair{t: t, l: mustNew(t, p), m: &model{}}
	for range 4 {
		a.cursors = append(a.cursors, a.l.Cursor())
		a.spots = append(a.spots, &spot{m: a.m, side: -1})
	}
	return a
}

// move has one cursor and its spot do the same, and looks where both stand.
func (a *pair) move(i, what int, v api.Ver) {
	a.t.Helper()
	got, wanted := do(a.cursors[i], what, v), a.spots[i].do(what, v)
	c, e := a.cursors[i].Cell()
	if d, f := a.spots[i].cell(); got != wanted || c != d || e != f {
		a.t.Fatalf("cursor's call %d of %v: %d, at %v, %d; want %d, at %v, %d", what, v, got, c, e, wanted, d, f)
	}
}

func (a *pair) insert(c api.Cell, height int) {
	a.t.Helper()
	if got, wanted := a.l.Insert(c, height), a.m.insert(c, height); got != wanted {
		a.t.Fatalf("Insert %v, %d: %d, want %d", c, height, got, wanted)
	}
}

func (a *pair) get(key string, seq int) {
	a.t.Helper()
	c, e := a.l.Get(key, seq)
	if d, f := a.m.get(key, seq); c != d || e != f {
		a.t.Fatalf("Get %q, %d: %v, %d, want %v, %d", key, seq, c, e, d, f)
	}
}

// look holds all that the list tells against the model.
func (a *pair) look() {
	a.t.Helper()
	if a.l.Count() != len(a.m.cells) || a.l.Weight() != a.m.weight() {
		a.t.Fatalf("Count %d, Weight %d, want %d, %d", a.l.Count(), a.l.Weight(), len(a.m.cells), a.m.weight())
	}
	if a.m.freed {
		return
	}
	if cells := forth(a.t, a.l); !slices.Equal(cells, a.m.cells) {
		a.t.Fatalf("forth: %v, want %v", cells, a.m.cells)
	}
	cells := back(a.t, a.l)
	slices.Reverse(cells)
	if !slices.Equal(cells, a.m.cells) {
		a.t.Fatalf("back: %v, want %v", cells, a.m.cells)
	}
}

// P11.1: drawn calls on a list and its cursors are answered as a sorted row answers them.
func TestDrawnCalls(t *testing.T) {
	for seed := range 60 {
		d := drawn(seed)
		p := mustPool(t, 2048+8*d.below(300), 80)
		a := newPair(t, p)
		for range 400 {
			switch d.below(10) {
			case 0, 1, 2, 3:
				v := d.any()
				height := d.height()
				if d.below(20) == 0 {
					height = []int{0, 13, -1, 14, math.MaxInt, math.MinInt}[d.below(6)]
				}
				a.insert(api.Cell{Ver: v, Val: d.val()}, height)
			case 4, 5:
				v := d.any()
				a.get(v.Key, v.Seq)
			default:
				a.move(d.below(4), d.below(5), d.any())
			}
		}
		a.look()
		a.end(&d)
	}
}

// end freezes and frees the list, and looks what it answers then.
func (a *pair) end(d *drawn) {
	a.t.Helper()
	a.l.Freeze()
	a.m.frozen = true
	for range 2 {
		for range 30 {
			a.insert(api.Cell{Ver: d.any(), Val: d.val()}, d.height())
			a.move(d.below(4), d.below(5), d.any())
			v := d.any()
			a.get(v.Key, v.Seq)
		}
		a.look()
		if got, wanted := a.l.Free(), a.m.free(); got != wanted {
			a.t.Fatalf("Free: %d, want %d", got, wanted)
		}
	}
	a.look()
}

// P11.4: what lists with one row of versions tell is the same, whatever towers they have.
func TestHeightsTellNothing(t *testing.T) {
	heights := map[string]func(d *drawn, i int) int{
		"all 1":      func(*drawn, int) int { return 1 },
		"all 12":     func(*drawn, int) int { return 12 },
		"rising":     func(_ *drawn, i int) int { return 1 + i%12 },
		"falling":    func(_ *drawn, i int) int { return 12 - i%12 },
		"drawn":      func(d *drawn, _ int) int { return d.height() },
		"any":        func(d *drawn, _ int) int { return 1 + d.below(12) },
		"1 or 12":    func(d *drawn, _ int) int { return 1 + 11*d.below(2) },
		"as a ruler": func(_ *drawn, i int) int { return 1 + trailing(i+1) },
	}
	for name, height := range heights {
		t.Run(name, func(t *testing.T) {
			a := newPair(t, mustPool(t, 4096, 200))
			d, h := drawn(7), drawn(len(name))
			for i := range 1200 {
				a.insert(api.Cell{Ver: api.Ver{Key: fmt.Sprint(d.below(300)), Seq: d.below(4), Kind: d.below(2)}, Val: d.val()}, height(&h, i))
				if i%8 == 0 {
					a.move(d.below(4), d.below(5), api.Ver{Key: fmt.Sprint(d.below(300)), Seq: d.below(5)})
					a.get(fmt.Sprint(d.below(300)), d.below(5)-1)
				}
			}
			a.look()
		})
	}
}

// trailing answers how many noughts a number's bits end with.
func trailing(n int) int {
	k := 0
	for n%2 == 0 && k < 11 {
		n, k = n/2, k+1
	}
	return k
}
