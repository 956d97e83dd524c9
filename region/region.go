// Package region is layer 1: bytes in regions that are freed at once: see shared/doc/01-region.md.
package region

import "assart/api"

const (
	minSlab = 64   // the least bytes of a slab: what the greatest alignment needs
	grain   = 8    // a slab's bytes are a multiple of it
	poison  = 0xDD // what freed bytes are, so that who reads them on sees it
)

// Handle is a piece of a region.
type Handle struct {
	Region, Gen, Off, Len int
}

// Pool is slabs of bytes, and the regions that have them.
type Pool struct {
	size  int
	bytes []byte // slab i's are those from i * size on
	taken []bool // of each slab: has a region it?
	areas [api.MaxRegions]area
}

// area is what a pool knows of one region's number. Its generation outlives the region: by it alone an old handle is told from a new one.
type area struct {
	live  bool
	gen   int
	slabs []int
	fill  int
}

// New: so many slabs of so many bytes.
func New(size, slabs int) (*Pool, api.Errno) {
	if size < minSlab || size > api.MaxSlab || size%grain != 0 {
		return nil, api.ErrArg
	}
	// Each factor is held to its limit first, so that the product can't wrap.
	if slabs < 1 || slabs > api.MaxSlabs || size*slabs > api.MaxBytes {
		return nil, api.ErrArg
	}
	return &Pool{size: size, bytes: make([]byte, size*slabs), taken: make([]bool, slabs)}, api.OK
}

// Make: a new region.
func (p *Pool) Make() (int, api.Errno) {
	if p == nil {
		return 0, api.ErrArg
	}
	for i := range p.areas {
		if a := &p.areas[i]; !a.live {
			*a = area{live: true, gen: a.gen + 1}
			return i, api.OK
		}
	}
	return 0, api.ErrSpace
}

// Alloc: a piece of a region.
func (p *Pool) Alloc(region, n, align int) (Handle, api.Errno) {
	a, e := p.find(region)
	if e != api.OK {
		return Handle{}, e
	}
	if n < 1 || n > p.size || !isAlign(align) {
		return Handle{}, api.ErrArg
	}
	from, fits := p.place(a, n, align)
	if !fits {
		slab, found := p.leastIdle()
		if !found {
			return Handle{}, api.ErrSpace
		}
		from = len(a.slabs) * p.size
		p.hand(a, slab)
	}
	a.fill = from + n
	return Handle{Region: region, Gen: a.gen, Off: from, Len: n}, api.OK
}

// Load: a piece's bytes.
func (p *Pool) Load(h Handle) ([]byte, api.Errno) {
	b, e := p.piece(h)
	return copyOf(b), e
}

// Store: some of a piece's bytes are others.
func (p *Pool) Store(h Handle, at int, b []byte) api.Errno {
	to, e := p.piece(h)
	if e != api.OK {
		return e
	}
	// Asked by a difference: at + len(b) could wrap.
	if at < 0 || at > len(to)-len(b) {
		return api.ErrArg
	}
	copy(to[at:], b)
	return api.OK
}

// Free: a region is there no longer.
func (p *Pool) Free(region int) api.Errno {
	a, e := p.find(region)
	if e != api.OK {
		return e
	}
	for _, slab := range a.slabs {
		paint(p.slab(slab), poison)
		p.taken[slab] = false
	}
	*a = area{gen: a.gen}
	return api.OK
}

// Slabs: the slabs of a region.
func (p *Pool) Slabs(region int) ([]int, api.Errno) {
	a, e := p.find(region)
	if e != api.OK {
		return nil, e
	}
	return append([]int(nil), a.slabs...), api.OK
}

// Size: how many bytes a slab has.
func (p *Pool) Size() int {
	if p == nil {
		return 0
	}
	return p.size
}

// Idle: how many slabs no region has.
func (p *Pool) Idle() int {
	if p == nil {
		return 0
	}
	idle := 0
	for _, taken := range p.taken {
		if !taken {
			idle++
		}
	}
	return idle
}

// Raw: a slab's bytes.
func (p *Pool) Raw(slab int) ([]byte, api.Errno) {
	if p == nil || slab < 0 || slab >= len(p.taken) {
		return nil, api.ErrArg
	}
	return copyOf(p.slab(slab)), api.OK
}

// find answers what is known of a region that is there.
func (p *Pool) find(region int) (*area, api.Errno) {
	if p == nil {
		return nil, api.ErrArg
	}
	if region < 0 || region >= len(p.areas) || !p.areas[region].live {
		return nil, api.ErrMiss
	}
	return &p.areas[region], api.OK
}

// piece answers the pool's own bytes of a handle: who calls it must not hand them out.
func (p *Pool) piece(h Handle) ([]byte, api.Errno) {
	if p == nil {
		return nil, api.ErrArg
	}
	a, e := p.find(h.Region)
	if e != api.OK || a.gen != h.Gen {
		return nil, api.ErrStale
	}
	// Asked by a difference: Off + Len of a forged handle could wrap.
	if h.Len < 1 || h.Off < 0 || h.Off > a.fill-h.Len {
		return nil, api.ErrArg
	}
	rest := h.Off % p.size
	if rest+h.Len > p.size {
		return nil, api.ErrArg
	}
	return p.slab(a.slabs[h.Off/p.size])[rest : rest+h.Len], api.OK
}

// place answers where a piece begins that needs no slab more; false: it needs one.
func (p *Pool) place(a *area, n, align int) (int, bool) {
	rest := a.fill % p.size
	// A slab's bytes needn't be a multiple of align: it is the rest that is aligned, not the whole number.
	up := (rest + align - 1) / align * align
	from := a.fill - rest + up
	return from, from < len(a.slabs)*p.size && up+n <= p.size
}

// leastIdle answers the least slab that no region has; false: there is none.
func (p *Pool) leastIdle() (int, bool) {
	for i, taken := range p.taken {
		if !taken {
			return i, true
		}
	}
	return 0, false
}

// hand gives a region a slab, without what was in it.
func (p *Pool) hand(a *area, slab int) {
	paint(p.slab(slab), 0)
	p.taken[slab] = true
	a.slabs = append(a.slabs, slab)
}

// slab answers the pool's own bytes of a slab.
func (p *Pool) slab(slab int) []byte {
	return p.bytes[slab*p.size : (slab+1)*p.size]
}

// isAlign tells whether a piece may be aligned so: to a power of 2 up to the limit.
func isAlign(align int) bool {
	return align >= 1 && align <= api.MaxAlign && align&(align-1) == 0
}

// paint makes all bytes one.
func paint(b []byte, with byte) {
	for i := range b {
		b[i] = with
	}
}

// copyOf answers the same bytes as new memory.
func copyOf(b []byte) []byte {
	return append([]byte(nil), b...)
}
