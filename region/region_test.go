package region

import (
	"bytes"
	"math"
	"slices"
	"testing"

	"assart/api"
)

// mustNew makes a pool that the test needs.
func mustNew(t *testing.T, size, slabs int) *Pool {
	t.Helper()
	p, e := New(size, slabs)
	if e != api.OK || p == nil {
		t.Fatalf("New(%d, %d): %d", size, slabs, e)
	}
	return p
}

// mustMake makes a region, which must get the number.
func mustMake(t *testing.T, p *Pool, want int) {
	t.Helper()
	if r, e := p.Make(); r != want || e != api.OK {
		t.Fatalf("Make = %d, %d, want %d", r, e, want)
	}
}

// mustAlloc allocates a piece, which must begin there.
func mustAlloc(t *testing.T, p *Pool, region, n, align, off int) Handle {
	t.Helper()
	h, e := p.Alloc(region, n, align)
	if e != api.OK || h.Region != region || h.Off != off || h.Len != n {
		t.Fatalf("Alloc(%d, %d, %d) = %v, %d, want it at %d", region, n, align, h, e, off)
	}
	return h
}

func mustStore(t *testing.T, p *Pool, h Handle, at int, b []byte) {
	t.Helper()
	if e := p.Store(h, at, b); e != api.OK {
		t.Fatalf("Store(%v, %d, %d bytes): %d", h, at, len(b), e)
	}
}

func wantLoad(t *testing.T, p *Pool, h Handle, want []byte) {
	t.Helper()
	if b, e := p.Load(h); e != api.OK || !bytes.Equal(b, want) {
		t.Fatalf("Load(%v) = %x, %d, want %x", h, b, e, want)
	}
}

// refuseLoad: Load and Store refuse a handle alike, and Load answers no bytes.
func refuseLoad(t *testing.T, p *Pool, h Handle, want api.Errno) {
	t.Helper()
	if b, e := p.Load(h); e != want || len(b) != 0 {
		t.Errorf("Load(%v) = %x, %d, want %d", h, b, e, want)
	}
	if e := p.Store(h, 0, []byte{1}); e != want {
		t.Errorf("Store(%v): %d, want %d", h, e, want)
	}
}

func refuseAlloc(t *testing.T, p *Pool, region, n, align int, want api.Errno) {
	t.Helper()
	if h, e := p.Alloc(region, n, align); e != want || h != (Handle{}) {
		t.Errorf("Alloc(%d, %d, %d) = %v, %d, want %d", region, n, align, h, e, want)
	}
}

func wantSlabs(t *testing.T, p *Pool, region int, want ...int) {
	t.Helper()
	if l, e := p.Slabs(region); e != api.OK || !slices.Equal(l, want) {
		t.Errorf("Slabs(%d) = %v, %d, want %v", region, l, e, want)
	}
}

func wantRaw(t *testing.T, p *Pool, slab int, want byte) {
	t.Helper()
	b, e := p.Raw(slab)
	if e != api.OK || !bytes.Equal(b, bytes.Repeat([]byte{want}, p.Size())) {
		t.Errorf("Raw(%d) = %x, %d, want all %x", slab, b, e, want)
	}
}

// P1.1: the chapter's example.
func TestExample(t *testing.T) {
	p := mustNew(t, 64, 2)
	mustMake(t, p, 0)
	want := []Handle{{0, 1, 0, 10}, {0, 1, 16, 8}, {0, 1, 64, 64}}
	for i, c := range [][2]int{{10, 1}, {8, 8}, {64, 1}} {
		if h, e := p.Alloc(0, c[0], c[1]); h != want[i] || e != api.OK {
			t.Fatal(i, h, e)
		}
	}
	refuseAlloc(t, p, 0, 1, 1, api.ErrSpace)
	if e := p.Free(0); e != api.OK {
		t.Fatal(e)
	}
	mustMake(t, p, 0)
	refuseLoad(t, p, want[0], api.ErrStale)
	h, e := p.Alloc(0, 1, 1)
	if e != api.OK || h != (Handle{0, 2, 0, 1}) {
		t.Fatal(h, e)
	}
	wantLoad(t, p, h, []byte{0})
}

// P1.1: New at its limits.
func TestNewTakes(t *testing.T) {
	for _, c := range [][2]int{
		{64, 1}, {72, 1}, {64, 4096}, {1024, 4096}, {65536, 1}, {65536, 64}, {65528, 64}, {4096, 1024},
	} {
		p := mustNew(t, c[0], c[1])
		if p.Size() != c[0] || p.Idle() != c[1] {
			t.Error(c, p.Size(), p.Idle())
		}
		wantRaw(t, p, 0, 0)
		wantRaw(t, p, c[1]-1, 0)
		if b, e := p.Raw(c[1]); e != api.ErrArg || len(b) != 0 {
			t.Error(c, b, e)
		}
	}
}

// P1.1: New one beyond its limits, and far from them.
func TestNewRefuses(t *testing.T) {
	for _, c := range [][2]int{
		{0, 1}, {8, 1}, {56, 1}, {63, 1}, {65, 1}, {68, 1}, {65535, 1}, {65537, 1}, {65544, 1},
		{64, 0}, {64, -1}, {64, 4097}, {65536, 65}, {1032, 4096}, {1024, 4097}, {4104, 1024}, {1040, 4033},
		{-64, 1}, {-64, -1}, {math.MaxInt, 1}, {math.MinInt, 1}, {64, math.MaxInt}, {64, math.MinInt},
		{65536, 1 << 48}, {1 << 32, 1 << 32},
	} {
		if p, e := New(c[0], c[1]); e != api.ErrArg || p != nil {
			t.Error(c, p, e)
		}
	}
}

// P1.1: Make answers the least number, up to MaxRegions of them.
func TestMake(t *testing.T) {
	p := mustNew(t, 64, 1)
	for i := range api.MaxRegions {
		mustMake(t, p, i)
		wantSlabs(t, p, i)
	}
	for range 2 {
		if r, e := p.Make(); r != 0 || e != api.ErrSpace {
			t.Error(r, e)
		}
	}
	for _, r := range []int{200, 0, 255, 7} {
		if e := p.Free(r); e != api.OK {
			t.Error(r, e)
		}
	}
	for _, r := range []int{0, 7, 200, 255} {
		mustMake(t, p, r)
	}
	if r, e := p.Make(); r != 0 || e != api.ErrSpace {
		t.Error(r, e)
	}
	for r, gen := range map[int]int{0: 2, 1: 1, 254: 1, 255: 2} {
		h := mustAlloc(t, p, r, 1, 1, 0)
		if h.Gen != gen {
			t.Error(r, h)
		}
		p.Free(r)
	}
}

// P1.1: generations count per number, this time too.
func TestGenerations(t *testing.T) {
	p := mustNew(t, 64, 2)
	mustMake(t, p, 0)
	for gen := 1; gen <= 300; gen++ {
		mustMake(t, p, 1)
		if h := mustAlloc(t, p, 1, 1, 1, 0); h.Gen != gen {
			t.Fatal(h, gen)
		}
		p.Free(1)
	}
	if h := mustAlloc(t, p, 0, 1, 1, 0); h.Gen != 1 {
		t.Error(h)
	}
}

// P1.1: where pieces begin, by each alignment; slabs whose bytes aren't a multiple of it.
func TestAllocAlignment(t *testing.T) {
	for _, c := range []struct {
		size  int
		calls [][3]int // n, align, where it begins
	}{
		{64, [][3]int{{1, 64, 0}, {1, 1, 1}, {1, 2, 2}, {1, 4, 4}, {1, 8, 8}, {1, 16, 16}, {1, 32, 32}, {1, 64, 64}}},
		{64, [][3]int{{3, 1, 0}, {2, 2, 4}, {2, 2, 6}, {1, 32, 32}, {31, 1, 33}, {1, 1, 64}}},
		{64, [][3]int{{8, 8, 0}, {8, 8, 8}, {32, 32, 32}, {1, 1, 64}}},
		{72, [][3]int{{1, 1, 0}, {8, 64, 64}, {1, 64, 72}, {8, 64, 136}, {1, 8, 144}}},
		{72, [][3]int{{66, 1, 0}, {1, 64, 72}, {64, 1, 73}, {1, 16, 144}}},
		{72, [][3]int{{70, 1, 0}, {1, 16, 72}, {1, 16, 88}, {1, 32, 104}, {1, 64, 136}, {8, 1, 144}}},
		{72, [][3]int{{72, 1, 0}, {71, 1, 72}, {1, 1, 143}, {72, 64, 144}}},
		{128, [][3]int{{1, 1, 0}, {64, 64, 64}, {1, 1, 128}, {65, 64, 256}, {1, 1, 321}}},
	} {
		p := mustNew(t, c.size, 4)
		mustMake(t, p, 0)
		for _, a := range c.calls {
			mustAlloc(t, p, 0, a[0], a[1], a[2])
		}
	}
}

// P1.1: a piece never lies over a slab's end; what is left out there isn't handed out later.
func TestAllocOverEnd(t *testing.T) {
	p := mustNew(t, 64, 3)
	mustMake(t, p, 0)
	mustAlloc(t, p, 0, 60, 1, 0)
	mustAlloc(t, p, 0, 5, 1, 64)
	mustAlloc(t, p, 0, 4, 1, 69)
	mustAlloc(t, p, 0, 55, 1, 73)
	if p.Idle() != 1 {
		t.Error(p.Idle())
	}
	mustAlloc(t, p, 0, 64, 64, 128)
	wantSlabs(t, p, 0, 0, 1, 2)
	refuseAlloc(t, p, 0, 1, 1, api.ErrSpace)
}

// P1.1: a region's slabs are in the order in which it got them, each the least idle one then.
func TestSlabs(t *testing.T) {
	p := mustNew(t, 64, 5)
	for r := range 3 {
		mustMake(t, p, r)
		mustAlloc(t, p, r, 64, 1, 0)
	}
	mustAlloc(t, p, 1, 1, 1, 64)
	wantSlabs(t, p, 0, 0)
	wantSlabs(t, p, 1, 1, 3)
	wantSlabs(t, p, 2, 2)
	p.Free(0)
	p.Free(2)
	mustAlloc(t, p, 1, 64, 1, 128)
	wantSlabs(t, p, 1, 1, 3, 0)
	mustAlloc(t, p, 1, 64, 1, 192)
	h := mustAlloc(t, p, 1, 64, 1, 256)
	wantSlabs(t, p, 1, 1, 3, 0, 2, 4)
	if p.Idle() != 0 {
		t.Error(p.Idle())
	}
	mustStore(t, p, h, 0, bytes.Repeat([]byte{9}, 64))
	wantRaw(t, p, 4, 9)
}

// P1.1: no such region, whatever else is wrong.
func TestNoRegion(t *testing.T) {
	p := mustNew(t, 64, 1)
	mustMake(t, p, 0)
	mustMake(t, p, 1)
	p.Free(0)
	for _, r := range []int{0, 2, 255, 256, -1, 1 << 32, math.MaxInt, math.MinInt} {
		refuseAlloc(t, p, r, 1, 1, api.ErrMiss)
		refuseAlloc(t, p, r, 0, 3, api.ErrMiss)
		if e := p.Free(r); e != api.ErrMiss {
			t.Error(r, e)
		}
		if l, e := p.Slabs(r); e != api.ErrMiss || len(l) != 0 {
			t.Error(r, l, e)
		}
		refuseLoad(t, p, Handle{r, 1, 0, 1}, api.ErrStale)
		refuseLoad(t, p, Handle{r, 0, -1, 0}, api.ErrStale)
	}
}

// P1.1: counts and alignments that none may have come ahead of a lack of room.
func TestAllocRefuses(t *testing.T) {
	p := mustNew(t, 64, 1)
	for _, lack := range []bool{false, true} {
		r, _ := p.Make()
		for _, n := range []int{0, -1, 65, math.MaxInt, math.MinInt} {
			refuseAlloc(t, p, r, n, 1, api.ErrArg)
		}
		for _, align := range []int{0, -1, -8, 3, 5, 6, 7, 12, 24, 48, 63, 65, 96, 128, math.MaxInt, math.MinInt} {
			refuseAlloc(t, p, r, 1, align, api.ErrArg)
		}
		if lack {
			refuseAlloc(t, p, r, 1, 1, api.ErrSpace)
		} else {
			mustAlloc(t, p, r, 64, 1, 0)
		}
	}
}

// P1.1: Raw of no slab.
func TestRawRefuses(t *testing.T) {
	p := mustNew(t, 64, 3)
	for _, s := range []int{-1, 3, 4096, 1 << 58, math.MaxInt, math.MinInt} {
		if b, e := p.Raw(s); e != api.ErrArg || len(b) != 0 {
			t.Error(s, b, e)
		}
	}
}

// P1.1: handles that nobody was given are told by their numbers alone.
func TestForgedHandles(t *testing.T) {
	p := mustNew(t, 64, 4)
	mustMake(t, p, 0)
	h := mustAlloc(t, p, 0, 3, 1, 0)
	mustStore(t, p, h, 0, []byte{1, 2, 3})
	mustAlloc(t, p, 0, 4, 8, 8)
	mustAlloc(t, p, 0, 60, 1, 64)
	wantLoad(t, p, Handle{0, 1, 1, 4}, []byte{2, 3, 0, 0})
	wantLoad(t, p, Handle{0, 1, 60, 4}, make([]byte, 4))
	wantLoad(t, p, Handle{0, 1, 0, 64}, append([]byte{1, 2, 3}, make([]byte, 61)...))
	wantLoad(t, p, Handle{0, 1, 64, 60}, make([]byte, 60))
	wantLoad(t, p, Handle{0, 1, 123, 1}, []byte{0})
	for _, c := range [][2]int{
		{0, 0}, {0, -1}, {-1, 1}, {-1, 2}, {-64, 64}, {0, 65}, {60, 5}, {63, 2}, {1, 64}, {0, 124},
		{64, 61}, {123, 2}, {124, 1}, {124, 0}, {128, 1},
		{math.MaxInt, 1}, {math.MaxInt, math.MaxInt}, {1, math.MaxInt}, {0, math.MaxInt},
		{math.MinInt, 1}, {1, math.MinInt}, {math.MinInt, math.MinInt}, {math.MinInt, math.MaxInt},
	} {
		refuseLoad(t, p, Handle{0, 1, c[0], c[1]}, api.ErrArg)
		refuseLoad(t, p, Handle{0, 2, c[0], c[1]}, api.ErrStale)
	}
	mustMake(t, p, 1)
	refuseLoad(t, p, Handle{1, 1, 0, 1}, api.ErrArg)
	wantLoad(t, p, h, []byte{1, 2, 3})
}

// P1.1: where in a piece bytes may be stored.
func TestStoreAt(t *testing.T) {
	p := mustNew(t, 64, 1)
	mustMake(t, p, 0)
	mustAlloc(t, p, 0, 4, 1, 0)
	h := mustAlloc(t, p, 0, 4, 1, 4)
	mustStore(t, p, h, 0, []byte("abcd"))
	mustStore(t, p, h, 1, []byte("x"))
	mustStore(t, p, h, 2, []byte("yz"))
	mustStore(t, p, h, 0, nil)
	mustStore(t, p, h, 4, nil)
	mustStore(t, p, h, 4, []byte{})
	for _, c := range []struct {
		at, n int
	}{{-1, 0}, {-1, 1}, {5, 0}, {4, 1}, {3, 2}, {1, 4}, {0, 5}, {0, 64}, {math.MaxInt, 0}, {math.MaxInt, 5}, {math.MinInt, 0}, {math.MinInt, 5}} {
		if e := p.Store(h, c.at, bytes.Repeat([]byte{'!'}, c.n)); e != api.ErrArg {
			t.Error(c, e)
		}
	}
	wantLoad(t, p, h, []byte("axyz"))
	wantLoad(t, p, Handle{0, 1, 0, 8}, []byte("\x00\x00\x00\x00axyz"))
}

// P1.2: pieces of several regions, stored to over and over, keep what is theirs.
func TestPiecesApart(t *testing.T) {
	p := mustNew(t, 72, 60)
	for r := range 3 {
		mustMake(t, p, r)
	}
	var l []Handle
	for i := range 90 {
		h, e := p.Alloc(i%3, i%23+1, 1<<(i%7))
		if e != api.OK {
			t.Fatal(i, e)
		}
		l = append(l, h)
	}
	for round := range 2 {
		for i := range l {
			// Once rising and once falling: a piece that lay over its neighbour would be seen from either side.
			at := i
			if round == 1 {
				at = len(l) - 1 - i
			}
			mustStore(t, p, l[at], 0, bytes.Repeat([]byte{byte(at + 1 + round)}, l[at].Len))
		}
		for i, h := range l {
			wantLoad(t, p, h, bytes.Repeat([]byte{byte(i + 1 + round)}, h.Len))
		}
	}
	p.Free(1)
	for i, h := range l {
		if i%3 == 1 {
			refuseLoad(t, p, h, api.ErrStale)
		} else {
			wantLoad(t, p, h, bytes.Repeat([]byte{byte(i + 2)}, h.Len))
		}
	}
}

// P1.3: stale for good, and only by what is true of the region now.
func TestStale(t *testing.T) {
	p := mustNew(t, 64, 2)
	mustMake(t, p, 0)
	var old []Handle
	for range 10 {
		h := mustAlloc(t, p, 0, 8, 1, 0)
		mustStore(t, p, h, 0, []byte("8 bytes!"))
		p.Free(0)
		old = append(old, h)
		for _, o := range old {
			refuseLoad(t, p, o, api.ErrStale)
		}
		mustMake(t, p, 0)
		for _, o := range old {
			refuseLoad(t, p, o, api.ErrStale)
		}
	}
	h := mustAlloc(t, p, 0, 8, 1, 0)
	for _, o := range old {
		refuseLoad(t, p, o, api.ErrStale)
		refuseLoad(t, p, Handle{0, o.Gen, -1, 0}, api.ErrStale)
		if e := p.Store(o, -1, nil); e != api.ErrStale {
			t.Error(e)
		}
	}
	for _, gen := range []int{0, -1, h.Gen + 1, h.Gen + 1<<32, math.MaxInt, math.MinInt} {
		refuseLoad(t, p, Handle{0, gen, 0, 8}, api.ErrStale)
	}
	wantLoad(t, p, h, make([]byte, 8))
}

// P1.4: what was freed is poisoned to its last byte, what a region gets is 0 to its last byte.
func TestPoison(t *testing.T) {
	p := mustNew(t, 64, 3)
	mustMake(t, p, 0)
	mustMake(t, p, 1)
	mustAlloc(t, p, 0, 1, 1, 0)
	h := mustAlloc(t, p, 1, 64, 1, 0)
	mustStore(t, p, h, 0, bytes.Repeat([]byte{7}, 64))
	mustAlloc(t, p, 0, 64, 1, 64)
	p.Free(0)
	wantRaw(t, p, 0, 0xDD)
	wantRaw(t, p, 1, 7)
	wantRaw(t, p, 2, 0xDD)
	mustAlloc(t, p, 1, 1, 1, 64)
	wantRaw(t, p, 0, 0)
	wantRaw(t, p, 2, 0xDD)
	p.Free(1)
	for s := range 3 {
		wantRaw(t, p, s, 0xDD)
	}
	mustMake(t, p, 0)
	wantRaw(t, p, 0, 0xDD)
	wantLoad(t, p, mustAlloc(t, p, 0, 64, 1, 0), make([]byte, 64))
}

// seen is all that a pool tells of itself.
func seen(p *Pool) []any {
	l := []any{p.Size(), p.Idle()}
	for s := 0; ; s++ {
		b, e := p.Raw(s)
		if e != api.OK {
			break
		}
		l = append(l, string(b))
	}
	for r := range api.MaxRegions {
		s, e := p.Slabs(r)
		l = append(l, len(s), e)
		for _, one := range s {
			l = append(l, one)
		}
	}
	return l
}

// P1.5: a refused Alloc leaves the fill, the slabs and the bytes as they were.
func TestRefusedAllocChangesNothing(t *testing.T) {
	p := mustNew(t, 64, 2)
	mustMake(t, p, 0)
	mustMake(t, p, 1)
	mustAlloc(t, p, 0, 50, 1, 0)
	h := mustAlloc(t, p, 1, 64, 1, 0)
	mustStore(t, p, h, 0, bytes.Repeat([]byte{7}, 64))
	before := seen(p)
	for _, c := range []struct {
		region, n, align int
		want             api.Errno
	}{
		{0, 15, 1, api.ErrSpace}, {0, 9, 8, api.ErrSpace}, {0, 1, 64, api.ErrSpace}, {0, 64, 64, api.ErrSpace},
		{1, 1, 1, api.ErrSpace}, {0, 0, 1, api.ErrArg}, {0, 65, 1, api.ErrArg}, {0, 1, 3, api.ErrArg}, {2, 1, 1, api.ErrMiss},
	} {
		refuseAlloc(t, p, c.region, c.n, c.align, c.want)
		if !slices.Equal(before, seen(p)) {
			t.Error(c, "changed the pool")
		}
		refuseLoad(t, p, Handle{0, 1, 50, 1}, api.ErrArg)
	}
	mustAlloc(t, p, 0, 14, 1, 50)
}

// P1.5: with idle slabs at hand, a wrong Alloc takes none.
func TestWrongAllocTakesNoSlab(t *testing.T) {
	p := mustNew(t, 64, 2)
	mustMake(t, p, 0)
	before := seen(p)
	refuseAlloc(t, p, 0, 65, 1, api.ErrArg)
	refuseAlloc(t, p, 0, 1, 5, api.ErrArg)
	refuseAlloc(t, p, 1, 1, 1, api.ErrMiss)
	if !slices.Equal(before, seen(p)) {
		t.Error("changed the pool")
	}
	mustAlloc(t, p, 0, 64, 1, 0)
}

// P1.6: an answer that is written over, or grown, changes nothing in the pool.
func TestAnswersAreNewMemory(t *testing.T) {
	p := mustNew(t, 64, 3)
	mustMake(t, p, 0)
	h := mustAlloc(t, p, 0, 4, 1, 0)
	mustAlloc(t, p, 0, 4, 1, 4)
	mustAlloc(t, p, 0, 64, 1, 64)
	mustStore(t, p, h, 0, []byte("abcd"))
	before := seen(p)
	loaded, _ := p.Load(h)
	raw, _ := p.Raw(0)
	slabs, _ := p.Slabs(0)
	for _, b := range [][]byte{loaded, raw} {
		for i := range b[:cap(b)] {
			b[:cap(b)][i] = '!'
		}
	}
	for i := range slabs[:cap(slabs)] {
		slabs[:cap(slabs)][i] = 2
	}
	if !slices.Equal(before, seen(p)) {
		t.Error("an answer shares memory with the pool")
	}
	mustAlloc(t, p, 0, 1, 1, 128)
	wantSlabs(t, p, 0, 0, 1, 2)
	wantLoad(t, p, h, []byte("abcd"))
}

// P1.6: an answer stays what it was, whatever is done to the pool.
func TestAnswersStay(t *testing.T) {
	p := mustNew(t, 64, 2)
	mustMake(t, p, 0)
	h := mustAlloc(t, p, 0, 64, 1, 0)
	mustStore(t, p, h, 0, []byte("abcd"))
	loaded, _ := p.Load(h)
	raw, _ := p.Raw(0)
	slabs, _ := p.Slabs(0)
	mustStore(t, p, h, 0, []byte("efgh"))
	mustAlloc(t, p, 0, 1, 1, 64)
	p.Free(0)
	want := append([]byte("abcd"), make([]byte, 60)...)
	if !bytes.Equal(loaded, want) || !bytes.Equal(raw, want) || !slices.Equal(slabs, []int{0}) {
		t.Error(loaded, raw, slabs)
	}
}

// P1.6: what is stored is neither kept nor changed, its spare room neither.
func TestArgumentsStayTheirs(t *testing.T) {
	p := mustNew(t, 64, 1)
	mustMake(t, p, 0)
	h := mustAlloc(t, p, 0, 8, 1, 0)
	whole := []byte("abcdefgh")
	mustStore(t, p, h, 2, whole[2:4])
	if string(whole) != "abcdefgh" {
		t.Error(string(whole))
	}
	whole[2] = '!'
	wantLoad(t, p, h, []byte("\x00\x00cd\x00\x00\x00\x00"))
	mustStore(t, p, h, 0, make([]byte, 8))
	p.Free(0)
	if string(whole) != "ab!defgh" {
		t.Error(string(whole))
	}
}

// P1.1: pools know nothing of each other.
func TestPoolsApart(t *testing.T) {
	p, q := mustNew(t, 64, 1), mustNew(t, 64, 1)
	mustMake(t, p, 0)
	mustMake(t, q, 0)
	h := mustAlloc(t, p, 0, 64, 1, 0)
	mustAlloc(t, q, 0, 64, 1, 0)
	mustStore(t, p, h, 0, bytes.Repeat([]byte{5}, 64))
	wantRaw(t, q, 0, 0)
	p.Free(0)
	wantLoad(t, q, h, make([]byte, 64))
}

// P1.1, P1: a nil pool.
func TestNilPool(t *testing.T) {
	var p *Pool
	if p.Size() != 0 || p.Idle() != 0 {
		t.Error(p.Size(), p.Idle())
	}
	if r, e := p.Make(); r != 0 || e != api.ErrArg {
		t.Error(r, e)
	}
	for _, n := range []int{0, 1, -1, 256, math.MaxInt, math.MinInt} {
		refuseAlloc(t, p, n, n, n, api.ErrArg)
		refuseLoad(t, p, Handle{n, n, n, n}, api.ErrArg)
		if e := p.Store(Handle{}, n, nil); e != api.ErrArg {
			t.Error(e)
		}
		if e := p.Free(n); e != api.ErrArg {
			t.Error(e)
		}
		if l, e := p.Slabs(n); e != api.ErrArg || len(l) != 0 {
			t.Error(l, e)
		}
		if b, e := p.Raw(n); e != api.ErrArg || len(b) != 0 {
			t.Error(b, e)
		}
	}
}
