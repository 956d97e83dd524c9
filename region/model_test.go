package region

import (
	"bytes"
	"math"
	"slices"
	"testing"

	"assart/api"
)

// draw is a row of numbers that is the same in every run.
type draw uint64

func (d *draw) below(n int) int {
	*d = *d*6364136223846793005 + 1442695040888963407
	return int(uint64(*d)>>33) % n
}

// model is a pool written down as the chapter tells it: the slabs' bytes, and of each number that was ever made how often, and its region if there is one.
type model struct {
	size   int
	slabs  [][]byte
	gens   map[int]int
	living map[int]*modelRegion
}

type modelRegion struct {
	slabs []int
	fill  int
}

func newModel(size, slabs int) *model {
	m := &model{size: size, gens: map[int]int{}, living: map[int]*modelRegion{}}
	for range slabs {
		m.slabs = append(m.slabs, make([]byte, size))
	}
	return m
}

// idle answers the slabs that no region has, rising.
func (m *model) idle() []int {
	var l []int
	for s := range m.slabs {
		had := false
		for _, r := range m.living {
			had = had || slices.Contains(r.slabs, s)
		}
		if !had {
			l = append(l, s)
		}
	}
	return l
}

func (m *model) make() (int, api.Errno) {
	for i := range api.MaxRegions {
		if m.living[i] == nil {
			m.living[i] = &modelRegion{}
			m.gens[i]++
			return i, api.OK
		}
	}
	return 0, api.ErrSpace
}

func (m *model) alloc(region, n, align int) (Handle, api.Errno) {
	r := m.living[region]
	if r == nil {
		return Handle{}, api.ErrMiss
	}
	if n < 1 || n > m.size || !slices.Contains([]int{1, 2, 4, 8, 16, 32, 64}, align) {
		return Handle{}, api.ErrArg
	}
	from := r.fill
	for from%m.size%align != 0 {
		from++
	}
	if from/m.size >= len(r.slabs) || from%m.size+n > m.size {
		idle := m.idle()
		if len(idle) == 0 {
			return Handle{}, api.ErrSpace
		}
		from = len(r.slabs) * m.size
		r.slabs = append(r.slabs, idle[0])
		m.slabs[idle[0]] = make([]byte, m.size)
	}
	r.fill = from + n
	return Handle{region, m.gens[region], from, n}, api.OK
}

func (m *model) store(h Handle, at int, b []byte) api.Errno {
	r := m.living[h.Region]
	if r == nil || m.gens[h.Region] != h.Gen {
		return api.ErrStale
	}
	if at < 0 || at+len(b) > h.Len {
		return api.ErrArg
	}
	for i, one := range b {
		byteAt := h.Off + at + i
		m.slabs[r.slabs[byteAt/m.size]][byteAt%m.size] = one
	}
	return api.OK
}

func (m *model) free(region int) api.Errno {
	r := m.living[region]
	if r == nil {
		return api.ErrMiss
	}
	for _, s := range r.slabs {
		m.slabs[s] = bytes.Repeat([]byte{0xDD}, m.size)
	}
	delete(m.living, region)
	return api.OK
}

// check holds all that a pool tells of itself against the model. P1.5: the idle slabs and the regions' ones are all, none twice.
func (m *model) check(t *testing.T, p *Pool) {
	t.Helper()
	if p.Size() != m.size || p.Idle() != len(m.idle()) {
		t.Fatal("Size, Idle", p.Size(), p.Idle())
	}
	for s, want := range m.slabs {
		if b, e := p.Raw(s); e != api.OK || !bytes.Equal(b, want) {
			t.Fatalf("Raw(%d) = %x, %d, want %x", s, b, e, want)
		}
	}
	var had []int
	for i := range api.MaxRegions {
		l, e := p.Slabs(i)
		r := m.living[i]
		if (e == api.OK) != (r != nil) || r != nil && !slices.Equal(l, r.slabs) {
			t.Fatal("Slabs", i, l, e)
		}
		had = append(had, l...)
	}
	slices.Sort(had)
	if len(slices.Compact(slices.Clone(had))) != len(had) || len(had)+p.Idle() != len(m.slabs) {
		t.Fatal("slabs had", had, "idle", p.Idle())
	}
}

// run drives a pool and the model by the same drawn calls, and holds each answer against the other's.
func run(t *testing.T, d *draw, size, slabs, numbers, calls int) {
	p, m := mustNew(t, size, slabs), newModel(size, slabs)
	var given []Handle
	kept := map[Handle][]byte{} // P1.2: what each piece's bytes must be
	for range calls {
		region := d.below(numbers+2) - 1
		switch d.below(10) {
		case 0:
			if len(m.living) < numbers {
				n, e := p.Make()
				if wn, we := m.make(); n != wn || e != we {
					t.Fatal("Make", n, e, wn, we)
				}
			}
		case 1:
			if d.below(3) == 0 {
				if e, we := p.Free(region), m.free(region); e != we {
					t.Fatal("Free", region, e, we)
				}
			}
		case 2, 3, 4, 5:
			n, align := d.below(size/4)+1, 1<<d.below(7)
			if d.below(8) == 0 {
				n, align = d.below(size+4)-1, d.below(70)-2
			}
			h, e := p.Alloc(region, n, align)
			if wh, we := m.alloc(region, n, align); h != wh || e != we {
				t.Fatal("Alloc", region, n, align, h, e, wh, we)
			}
			if e == api.OK {
				given = append(given, h)
				kept[h] = make([]byte, n)
			}
		default:
			if len(given) > 0 {
				h := given[d.below(len(given))]
				storeBoth(t, d, p, m, h, kept[h])
			}
		}
		m.check(t, p)
	}
	for _, h := range given {
		if m.living[h.Region] != nil && m.gens[h.Region] == h.Gen {
			wantLoad(t, p, h, kept[h])
		} else {
			refuseLoad(t, p, h, api.ErrStale)
		}
	}
}

// storeBoth stores drawn bytes to a piece of both, and notes in kept what the piece has then.
func storeBoth(t *testing.T, d *draw, p *Pool, m *model, h Handle, kept []byte) {
	t.Helper()
	at := d.below(h.Len+3) - 1
	b := make([]byte, d.below(h.Len+1))
	for i := range b {
		b[i] = byte(d.below(256))
	}
	e := p.Store(h, at, b)
	if we := m.store(h, at, b); e != we {
		t.Fatal("Store", h, at, len(b), e, we)
	}
	if e == api.OK {
		copy(kept[at:], b)
		wantLoad(t, p, h, kept)
	}
}

// P1.1 to P1.5: drawn calls are answered as the chapter's words, written down plainly, answer them.
func TestModel(t *testing.T) {
	d := draw(1)
	for _, c := range [][3]int{{64, 1, 2}, {64, 6, 3}, {72, 9, 4}, {88, 12, 5}, {104, 7, 3}, {200, 16, 6}, {256, 5, 2}} {
		for range 4 {
			run(t, &d, c[0], c[1], c[2], 400)
		}
	}
}

// P1: no call panics, whatever it is given, on pools in any state; one that New didn't make among them.
func TestNoPanic(t *testing.T) {
	odd := []int{math.MinInt, math.MinInt + 1, -65, -64, -1, 0, 1, 2, 63, 64, 65, 72, 255, 256, 1 << 31, 1 << 32, math.MaxInt - 1, math.MaxInt}
	some := mustNew(t, 72, 3)
	mustMake(t, some, 0)
	mustMake(t, some, 1)
	mustMake(t, some, 2)
	mustAlloc(t, some, 0, 70, 1, 0)
	mustAlloc(t, some, 0, 70, 1, 72)
	mustAlloc(t, some, 2, 3, 1, 0)
	some.Free(1)
	plain := &Pool{}
	plain.Make()
	for _, p := range []*Pool{nil, plain, mustNew(t, 64, 1), some} {
		for _, a := range odd {
			p.Raw(a)
			p.Slabs(a)
			for _, b := range odd {
				New(a, b)
				for _, c := range odd {
					p.Alloc(a, b, c)
					p.Load(Handle{0, 1, a, b})
					p.Load(Handle{a, b, c, 1})
					p.Store(Handle{0, 1, a, b}, c, nil)
					p.Store(Handle{0, 1, a, b}, c, []byte{1, 2, 3})
				}
			}
		}
		for _, a := range odd {
			p.Free(a)
		}
		p.Size()
		p.Idle()
	}
}
