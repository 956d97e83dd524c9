package epoch

import (
	"bytes"
	"fmt"
	"math"
	"slices"
	"strings"
	"testing"
	"unsafe"

	"assart/api"
	"assart/region"
)

func mustPool(t *testing.T, size, slabs int) *region.Pool {
	t.Helper()
	p, e := region.New(size, slabs)
	want(t, "region.New", e, api.OK)
	return p
}

// mustNew makes epochs that the test needs.
func mustNew(t *testing.T, p *region.Pool) *Epochs {
	t.Helper()
	x, e := New(p)
	want(t, "New", e, api.OK)
	return x
}

// want: a call must have answered so.
func want(t *testing.T, what string, got, wanted api.Errno) {
	t.Helper()
	if got != wanted {
		t.Fatalf("%s: %d, want %d", what, got, wanted)
	}
}

// wantNumber: a call must have answered this number, and OK.
func wantNumber(t *testing.T, what string, wanted int) func(int, api.Errno) {
	t.Helper()
	return func(got int, e api.Errno) {
		t.Helper()
		if got != wanted || e != api.OK {
			t.Fatalf("%s: %d, %d, want %d", what, got, e, wanted)
		}
	}
}

// wantNone: a call must have refused so, with nothing beside.
func wantNone(t *testing.T, what string, wanted api.Errno) func(int, api.Errno) {
	t.Helper()
	return func(got int, e api.Errno) {
		t.Helper()
		if got != 0 || e != wanted {
			t.Fatalf("%s: %d, %d, want 0, %d", what, got, e, wanted)
		}
	}
}

func pins(t *testing.T, x *Epochs, wanted int) {
	t.Helper()
	wantNumber(t, "Pin", wanted)(x.Pin())
}

func advances(t *testing.T, x *Epochs, wanted int) {
	t.Helper()
	wantNumber(t, "Advance", wanted)(x.Advance())
}

func collects(t *testing.T, x *Epochs, wanted int) {
	t.Helper()
	wantNumber(t, "Collect", wanted)(x.Collect())
}

// retire keeps bytes that the test needs.
func retire(t *testing.T, x *Epochs, s string) Note {
	t.Helper()
	n, e := x.Retire([]byte(s))
	want(t, "Retire", e, api.OK)
	return n
}

// wantLoad: the bytes of a note are these.
func wantLoad(t *testing.T, x *Epochs, n Note, wanted string) {
	t.Helper()
	if b, e := x.Load(n); string(b) != wanted || e != api.OK {
		t.Fatalf("Load %v: %q, %d, want %q", n, b, e, wanted)
	}
}

// wantNoLoad: a note is refused so.
func wantNoLoad(t *testing.T, x *Epochs, n Note, wanted api.Errno) {
	t.Helper()
	if b, e := x.Load(n); b != nil || e != wanted {
		t.Fatalf("Load %v: %q, %d, want %d", n, b, e, wanted)
	}
}

// wantNow: this epoch goes on, that is the oldest, these are live, and so many bytes are kept.
func wantNow(t *testing.T, x *Epochs, now, oldest, kept int, live ...int) {
	t.Helper()
	if x.Now() != now || x.Oldest() != oldest || x.Kept() != kept || !slices.Equal(x.Live(), live) {
		t.Fatalf("Now %d, Oldest %d, Kept %d, Live %v, want %d, %d, %d, %v", x.Now(), x.Oldest(), x.Kept(), x.Live(), now, oldest, kept, live)
	}
}

// raw is all bytes of a pool, and whose they are.
func raw(p *region.Pool) string {
	var s strings.Builder
	for i := 0; ; i++ {
		b, e := p.Raw(i)
		if e != api.OK {
			break
		}
		s.Write(b)
	}
	for number := range 256 {
		if slabs, e := p.Slabs(number); e == api.OK {
			fmt.Fprint(&s, number, slabs)
		}
	}
	return s.String()
}

// tell is all that epochs and their pool tell of themselves, and what these notes load.
func tell(x *Epochs, p *region.Pool, notes ...Note) string {
	s := fmt.Sprint(x.Now(), x.Oldest(), x.Live(), x.Kept(), raw(p))
	for _, n := range notes {
		s += fmt.Sprint(x.Load(n))
	}
	return s
}

// regions counts the regions of a pool.
func regions(p *region.Pool) int {
	count := 0
	for number := range 256 {
		if _, e := p.Slabs(number); e == api.OK {
			count++
		}
	}
	return count
}

// fill makes regions till there are as many as a pool takes.
func fill(t *testing.T, p *region.Pool) {
	t.Helper()
	for regions(p) < 256 {
		_, e := p.Make()
		want(t, "Make", e, api.OK)
	}
}

// wild are numbers that are far from all.
var wild = []int{0, -1, -2, -17, 1 << 32, 1<<32 + 1, 1<<32 + 2, -1 << 32, math.MinInt, math.MinInt + 1, math.MaxInt, math.MaxInt - 1}

// P12.1: the chapter's example.
func TestExample(t *testing.T) {
	x := mustNew(t, mustPool(t, 64, 2))
	pins(t, x, 1)
	n := retire(t, x, "abc")
	advances(t, x, 2)
	collects(t, x, 0)
	wantLoad(t, x, n, "abc")
	want(t, "Unpin", x.Unpin(1), api.OK)
	collects(t, x, 1)
	wantNoLoad(t, x, n, api.ErrStale)
	wantNow(t, x, 2, 2, 0, 2)
}

// P12.1: epoch 1 goes on, and has a region without slabs; what is refused makes none.
func TestNew(t *testing.T) {
	if x, e := New(nil); x != nil || e != api.ErrArg {
		t.Error(x, e)
	}
	p := mustPool(t, 64, 2)
	x := mustNew(t, p)
	wantNow(t, x, 1, 1, 0, 1)
	if p.Idle() != 2 || regions(p) != 1 {
		t.Error(p.Idle(), regions(p))
	}
	fill(t, p)
	was := raw(p)
	if x, e := New(p); x != nil || e != api.ErrSpace {
		t.Error(x, e)
	}
	if raw(p) != was {
		t.Error("a refused New changed the pool")
	}
	want(t, "Free", p.Free(255), api.OK)
	wantNow(t, mustNew(t, p), 1, 1, 0, 1)
	// A pool that region.New didn't make takes no bytes.
	x = mustNew(t, &region.Pool{})
	if n, e := x.Retire([]byte("a")); n != (Note{}) || e != api.ErrArg {
		t.Error(n, e)
	}
	wantNow(t, x, 1, 1, 0, 1)
}

// P12.1: each Advance answers the next number; each epoch has a region of its own from its beginning on.
func TestAdvance(t *testing.T) {
	p := mustPool(t, 64, 2)
	x := mustNew(t, p)
	live := []int{1}
	for k := 2; k <= 256; k++ {
		advances(t, x, k)
		live = append(live, k)
		wantNow(t, x, k, k, 0, live...)
		if regions(p) != k || p.Idle() != 2 {
			t.Fatal(k, regions(p), p.Idle())
		}
	}
	for range 3 {
		wantNone(t, "Advance", api.ErrSpace)(x.Advance())
		wantNow(t, x, 256, 256, 0, live...)
	}
	collects(t, x, 255)
	wantNow(t, x, 256, 256, 0, 256)
	advances(t, x, 257)
	wantNow(t, x, 257, 257, 0, 256, 257)
}

// P12.1: epochs go on far beyond the regions that a pool has at once.
func TestManyEpochs(t *testing.T) {
	p := mustPool(t, 64, 2)
	x := mustNew(t, p)
	var old Note
	for k := 2; k < 3000; k++ {
		n := retire(t, x, fmt.Sprint(k))
		advances(t, x, k)
		wantLoad(t, x, n, fmt.Sprint(k))
		collects(t, x, 1)
		wantNoLoad(t, x, n, api.ErrStale)
		wantNow(t, x, k, k, 0, k)
		// The oldest note tells the same number and place as others that are younger: it is stale for good.
		if old == (Note{}) {
			old = n
		}
		wantNoLoad(t, x, old, api.ErrStale)
	}
	if p.Idle() != 2 || regions(p) != 1 {
		t.Error(p.Idle(), regions(p))
	}
}

// P12.1: pins have the numbers 1, 2, .., whatever goes between; there are 1000 at once and not one more.
func TestPin(t *testing.T) {
	x := mustNew(t, mustPool(t, 64, 1))
	for k := 1; k <= 1000; k++ {
		pins(t, x, k)
		if k%100 == 0 {
			advances(t, x, k/100+1)
		}
	}
	for range 3 {
		wantNone(t, "Pin", api.ErrBig)(x.Pin())
	}
	for k := 1; k <= 2000; k++ {
		want(t, "Unpin", x.Unpin(k), api.OK)
		pins(t, x, k+1000)
		wantNone(t, "Pin", api.ErrBig)(x.Pin())
	}
	for k := 2001; k <= 3000; k++ {
		want(t, "Unpin", x.Unpin(k), api.OK)
	}
	// No number comes again, also when no pin is there.
	pins(t, x, 3001)
}

// P12.1: the last pin's number doesn't come again.
func TestPinsNumbersStay(t *testing.T) {
	x := mustNew(t, mustPool(t, 64, 1))
	for k := 1; k < 10; k++ {
		pins(t, x, k)
		want(t, "Unpin", x.Unpin(k), api.OK)
	}
}

// P12.1: what isn't there, not yet or no longer, can't be unpinned.
func TestUnpin(t *testing.T) {
	x := mustNew(t, mustPool(t, 64, 1))
	none := func(numbers ...int) {
		t.Helper()
		for _, pin := range append(numbers, wild...) {
			want(t, fmt.Sprint("Unpin ", pin), x.Unpin(pin), api.ErrMiss)
		}
	}
	none(1, 2)
	for k := 1; k <= 6; k++ {
		pins(t, x, k)
	}
	none(7, 8, 1000)
	var gone []int
	for _, pin := range []int{4, 1, 6, 5, 2, 3} {
		want(t, fmt.Sprint("Unpin ", pin), x.Unpin(pin), api.OK)
		gone = append(gone, pin)
		none(gone...)
	}
	none(1, 2, 3, 4, 5, 6, 7)
	pins(t, x, 7)
	want(t, "Unpin 7", x.Unpin(7), api.OK)
	none(7)
}

// P12.1: the pieces lie one behind the other in the region of the epoch that goes on, aligned to 1.
func TestRetire(t *testing.T) {
	p := mustPool(t, 64, 4)
	_, e := p.Make()
	want(t, "Make", e, api.OK)
	x := mustNew(t, p)
	for _, c := range []struct {
		s    string
		note Note
	}{
		{"abc", Note{1, region.Handle{Region: 1, Gen: 1, Off: 0, Len: 3}}},
		{"d", Note{1, region.Handle{Region: 1, Gen: 1, Off: 3, Len: 1}}},
		{"abc", Note{1, region.Handle{Region: 1, Gen: 1, Off: 4, Len: 3}}},
		{strings.Repeat("e", 57), Note{1, region.Handle{Region: 1, Gen: 1, Off: 7, Len: 57}}},
		{"f", Note{1, region.Handle{Region: 1, Gen: 1, Off: 64, Len: 1}}},
		{strings.Repeat("g", 64), Note{1, region.Handle{Region: 1, Gen: 1, Off: 128, Len: 64}}},
	} {
		if n := retire(t, x, c.s); n != c.note {
			t.Errorf("%v, want %v", n, c.note)
		}
		wantLoad(t, x, c.note, c.s)
	}
	advances(t, x, 2)
	if n := retire(t, x, "h"); n != (Note{2, region.Handle{Region: 2, Gen: 1, Off: 0, Len: 1}}) {
		t.Error(n)
	}
	collects(t, x, 1)
	advances(t, x, 3)
	// The third epoch has the first one's number in the pool.
	if n := retire(t, x, "\x00\xff"); n != (Note{3, region.Handle{Region: 1, Gen: 2, Off: 0, Len: 2}}) {
		t.Error(n)
	}
	wantNow(t, x, 3, 3, 3, 2, 3)
}

// P12.1, P12.4: bytes that are none, or too many, and a pool that is full, are refused, and nothing is kept.
func TestRetireRefuses(t *testing.T) {
	p := mustPool(t, 64, 1)
	x := mustNew(t, p)
	no := func(b []byte, wanted api.Errno, notes ...Note) {
		t.Helper()
		was := tell(x, p, notes...)
		if n, e := x.Retire(b); n != (Note{}) || e != wanted {
			t.Errorf("Retire of %d bytes: %v, %d, want %d", len(b), n, e, wanted)
		}
		if tell(x, p, notes...) != was {
			t.Error("a refused Retire changed something")
		}
	}
	for _, size := range []int{65, 66, 128, 1000} {
		no(make([]byte, size), api.ErrArg)
	}
	no(nil, api.ErrArg)
	no([]byte{}, api.ErrArg)
	n := retire(t, x, strings.Repeat("a", 63))
	no([]byte("ab"), api.ErrSpace, n)
	m := retire(t, x, "b")
	no([]byte("a"), api.ErrSpace, n, m)
	no(make([]byte, 64), api.ErrSpace, n, m)
	no(nil, api.ErrArg, n, m)
	no(make([]byte, 65), api.ErrArg, n, m)
	wantNow(t, x, 1, 1, 64, 1)
	advances(t, x, 2)
	no([]byte("a"), api.ErrSpace, n, m)
	collects(t, x, 1)
	wantLoad(t, x, retire(t, x, strings.Repeat("c", 64)), strings.Repeat("c", 64))
}

// P12.1: a note of an epoch that isn't live is stale, whatever else it tells.
func TestLoadStale(t *testing.T) {
	p := mustPool(t, 64, 4)
	x := mustNew(t, p)
	a := retire(t, x, "abc")
	advances(t, x, 2)
	b := retire(t, x, "def")
	advances(t, x, 3)
	pins(t, x, 1)
	advances(t, x, 4)
	c := retire(t, x, "ghi")
	stale := func(epochs ...int) {
		t.Helper()
		for _, epoch := range append(epochs, wild...) {
			for _, at := range []region.Handle{a.At, b.At, c.At, {}, {Region: -1, Gen: -1, Off: -1, Len: -1}} {
				wantNoLoad(t, x, Note{epoch, at}, api.ErrStale)
			}
		}
	}
	stale(5, 6)
	wantLoad(t, x, a, "abc")
	wantLoad(t, x, b, "def")
	collects(t, x, 2)
	stale(1, 2, 5)
	wantNoLoad(t, x, a, api.ErrStale)
	wantNoLoad(t, x, b, api.ErrStale)
	wantLoad(t, x, c, "ghi")
	want(t, "Unpin", x.Unpin(1), api.OK)
	wantLoad(t, x, c, "ghi")
	collects(t, x, 1)
	stale(1, 2, 3, 5)
	wantLoad(t, x, c, "ghi")
}

// P12.1: a note of a live epoch that no Retire answered is none, also where the pool would load it.
func TestLoadForged(t *testing.T) {
	p := mustPool(t, 64, 4)
	x := mustNew(t, p)
	a := retire(t, x, "abcdef")
	advances(t, x, 2)
	b := retire(t, x, "ghijkl")
	c := retire(t, x, "mnopqr")
	forged := []Note{{1, b.At}, {2, a.At}, {1, region.Handle{}}, {2, region.Handle{}}}
	for _, by := range append([]int{1, 2, 6, -6}, wild...) {
		for _, n := range []Note{a, b, c} {
			if by == 0 {
				continue
			}
			at := n.At
			forged = append(forged,
				Note{n.Epoch, region.Handle{Region: at.Region + by, Gen: at.Gen, Off: at.Off, Len: at.Len}},
				Note{n.Epoch, region.Handle{Region: at.Region, Gen: at.Gen + by, Off: at.Off, Len: at.Len}},
				Note{n.Epoch, region.Handle{Region: at.Region, Gen: at.Gen, Off: at.Off + by, Len: at.Len}},
				Note{n.Epoch, region.Handle{Region: at.Region, Gen: at.Gen, Off: at.Off, Len: at.Len + by}})
		}
	}
	// Pieces that the pool handed out to others, in the same regions too.
	own, e := p.Make()
	want(t, "Make", e, api.OK)
	for _, number := range []int{a.At.Region, b.At.Region, own} {
		h, e := p.Alloc(number, 3, 1)
		want(t, "Alloc", e, api.OK)
		forged = append(forged, Note{1, h}, Note{2, h})
	}
	// Those of others on the same pool.
	y := mustNew(t, p)
	forged = append(forged, retire(t, y, "stu"))
	for _, n := range forged {
		if n == a || n == b || n == c {
			continue
		}
		wantNoLoad(t, x, n, api.ErrArg)
	}
	wantNoLoad(t, y, a, api.ErrArg)
	wantNoLoad(t, y, b, api.ErrStale)
	wantLoad(t, x, a, "abcdef")
	wantLoad(t, x, b, "ghijkl")
	wantLoad(t, x, c, "mnopqr")
}

// P12.1: two Retires of the same bytes are two notes.
func TestSameBytes(t *testing.T) {
	x := mustNew(t, mustPool(t, 64, 1))
	seen := map[Note]int{}
	for k := range 20 {
		n := retire(t, x, "abc")
		seen[n]++
		if len(seen) != k+1 || x.Kept() != 3*(k+1) {
			t.Fatal(len(seen), x.Kept())
		}
	}
	for n := range seen {
		wantLoad(t, x, n, "abc")
	}
}

// P12.1: the least epoch of a pin that is there counts, in whatever order they go; without one that which goes on.
func TestOldest(t *testing.T) {
	orders := [][]int{{1, 2, 3, 4, 5}, {5, 4, 3, 2, 1}, {3, 1, 2, 5, 4}, {2, 4, 1, 5, 3}, {4, 5, 1, 3, 2}}
	for _, order := range orders {
		x := mustNew(t, mustPool(t, 64, 1))
		advances(t, x, 2)
		wantNow(t, x, 2, 2, 0, 1, 2)
		epochs := map[int]int{}
		for k, count := range []int{1, 2, 0, 1, 1} {
			for range count {
				pins(t, x, len(epochs)+1)
				epochs[len(epochs)+1] = k + 2
			}
			if k < 4 {
				advances(t, x, k+3)
			}
		}
		advances(t, x, 7)
		for _, pin := range order {
			want(t, "Unpin", x.Unpin(pin), api.OK)
			delete(epochs, pin)
			oldest := 7
			for _, epoch := range epochs {
				oldest = min(oldest, epoch)
			}
			if x.Oldest() != oldest {
				t.Fatal(order, pin, x.Oldest(), oldest)
			}
		}
	}
}

// P12.1: Collect frees what is below the oldest pin's epoch, and nothing of it, or above.
func TestCollect(t *testing.T) {
	p := mustPool(t, 64, 8)
	x := mustNew(t, p)
	collects(t, x, 0)
	notes := map[int]Note{}
	for k := 1; k <= 6; k++ {
		notes[k] = retire(t, x, strings.Repeat("a", k))
		if k == 2 || k == 4 {
			pins(t, x, k/2)
		}
		if k < 6 {
			advances(t, x, k+1)
		}
	}
	wantNow(t, x, 6, 2, 21, 1, 2, 3, 4, 5, 6)
	live := func(from int) {
		t.Helper()
		for k := 1; k <= 6; k++ {
			if k < from {
				wantNoLoad(t, x, notes[k], api.ErrStale)
			} else {
				wantLoad(t, x, notes[k], strings.Repeat("a", k))
			}
		}
		if p.Idle() != 8-(7-from) {
			t.Fatal(p.Idle())
		}
	}
	live(1)
	collects(t, x, 1)
	wantNow(t, x, 6, 2, 20, 2, 3, 4, 5, 6)
	live(2)
	collects(t, x, 0)
	live(2)
	// The younger pin goes: the older one keeps all.
	want(t, "Unpin", x.Unpin(2), api.OK)
	collects(t, x, 0)
	live(2)
	want(t, "Unpin", x.Unpin(1), api.OK)
	// Not ahead of Collect is anything freed.
	wantNow(t, x, 6, 6, 20, 2, 3, 4, 5, 6)
	live(2)
	collects(t, x, 4)
	wantNow(t, x, 6, 6, 6, 6)
	live(6)
	collects(t, x, 0)
	// A pin that is made late keeps what goes on, and no more.
	pins(t, x, 3)
	advances(t, x, 7)
	collects(t, x, 0)
	live(6)
	want(t, "Unpin", x.Unpin(3), api.OK)
	collects(t, x, 1)
	wantNow(t, x, 7, 7, 0, 7)
}

// P12.2: while a pin is there that was made in an epoch, or ahead of it, all that was retired in it is as it was.
func TestPinKeeps(t *testing.T) {
	for first := range 4 {
		for second := range 4 {
			x := mustNew(t, mustPool(t, 64, 16))
			kept, made := map[Note]string{}, 0
			for k := range 4 {
				for _, begin := range []int{first, second} {
					if k == begin {
						made++
						pins(t, x, made)
					}
				}
				s := strings.Repeat(string(rune('a'+k)), 40)
				kept[retire(t, x, s)] = s
				advances(t, x, k+2)
			}
			wantKept(t, x, kept, 1+min(first, second))
			want(t, "Unpin", x.Unpin(1), api.OK)
			wantKept(t, x, kept, 1+max(first, second))
			want(t, "Unpin", x.Unpin(2), api.OK)
			wantKept(t, x, kept, 5)
		}
	}
}

// wantKept: of these notes those from an epoch on are loaded as they were, whatever comes behind; the others are stale.
func wantKept(t *testing.T, x *Epochs, kept map[Note]string, from int) {
	t.Helper()
	for range 3 {
		_, e := x.Collect()
		want(t, "Collect", e, api.OK)
		retire(t, x, "what comes then")
		for n, s := range kept {
			if n.Epoch >= from {
				wantLoad(t, x, n, s)
			} else {
				wantNoLoad(t, x, n, api.ErrStale)
			}
		}
	}
}

// P12.2, P12.3: what others do in the pool reaches nothing here, and what is freed here is no other's.
func TestOthersInPool(t *testing.T) {
	p := mustPool(t, 64, 8)
	own, e := p.Make()
	want(t, "Make", e, api.OK)
	h, e := p.Alloc(own, 5, 8)
	want(t, "Alloc", e, api.OK)
	want(t, "Store", p.Store(h, 0, []byte("mine!")), api.OK)
	x, y := mustNew(t, p), mustNew(t, p)
	pins(t, x, 1)
	a, b := retire(t, x, "of x"), retire(t, y, "of y")
	advances(t, x, 2)
	advances(t, y, 2)
	collects(t, x, 0)
	collects(t, y, 1)
	wantLoad(t, x, a, "of x")
	wantNoLoad(t, y, b, api.ErrStale)
	want(t, "Close", y.Close(), api.OK)
	wantLoad(t, x, a, "of x")
	want(t, "Unpin", x.Unpin(1), api.OK)
	collects(t, x, 1)
	want(t, "Close", x.Close(), api.OK)
	if b, e := p.Load(h); string(b) != "mine!" || e != api.OK || regions(p) != 1 || p.Idle() != 7 {
		t.Error(b, e, regions(p), p.Idle())
	}
}

// P12.3: when no pin keeps an epoch and the next one has begun, one Collect gives the pool its slabs again, poisoned.
func TestSlabsComeBack(t *testing.T) {
	p := mustPool(t, 64, 5)
	x := mustNew(t, p)
	for k := 1; k < 80; k += 2 {
		pins(t, x, k)
		for range 2 {
			retire(t, x, strings.Repeat("s", 33))
		}
		advances(t, x, k+1)
		pins(t, x, k+1)
		for range 3 {
			retire(t, x, strings.Repeat("t", 33))
		}
		collects(t, x, 0)
		wantRoom(t, p, 0, 2)
		want(t, "Unpin", x.Unpin(k), api.OK)
		collects(t, x, 1)
		wantRoom(t, p, 2, 1)
		want(t, "Unpin", x.Unpin(k+1), api.OK)
		// No pin is there, but the next one hasn't begun.
		collects(t, x, 0)
		wantRoom(t, p, 2, 1)
		advances(t, x, k+2)
		wantRoom(t, p, 2, 2)
		collects(t, x, 1)
		wantRoom(t, p, 5, 1)
		for i := range 5 {
			if b, _ := p.Raw(i); !bytes.Equal(b, bytes.Repeat([]byte{0xDD}, 64)) {
				t.Fatalf("slab %d: %x", i, b)
			}
		}
	}
}

// P12.3: pins of the epoch that goes on keep none that are ahead of it.
func TestLatePinsKeepNothing(t *testing.T) {
	p := mustPool(t, 64, 5)
	x := mustNew(t, p)
	n := retire(t, x, "abc")
	advances(t, x, 2)
	pins(t, x, 1)
	m := retire(t, x, "def")
	advances(t, x, 3)
	collects(t, x, 1)
	wantNoLoad(t, x, n, api.ErrStale)
	wantLoad(t, x, m, "def")
	wantRoom(t, p, 4, 2)
}

// wantRoom: so many slabs of a pool are idle, and it has so many regions.
func wantRoom(t *testing.T, p *region.Pool, idle, count int) {
	t.Helper()
	if p.Idle() != idle || regions(p) != count {
		t.Fatalf("%d slabs idle, %d regions, want %d, %d", p.Idle(), regions(p), idle, count)
	}
}

// P12.1: Kept counts what is retired in live epochs, Live tells them, whatever pins there are.
func TestKept(t *testing.T) {
	x := mustNew(t, mustPool(t, 128, 32))
	kept, live := 0, []int{}
	for k := 1; k <= 10; k++ {
		live = append(live, k)
		for size := 1; size <= k; size++ {
			retire(t, x, strings.Repeat("k", size*size))
			kept += size * size
			wantNow(t, x, k, k, kept, live...)
		}
		if k < 10 {
			advances(t, x, k+1)
		}
	}
	collects(t, x, 9)
	wantNow(t, x, 10, 10, 385, 10)
}

// P12.1, P12.3: Close gives all back, whatever pins there are, and all calls answer as those of a nil one then.
func TestClose(t *testing.T) {
	p := mustPool(t, 64, 8)
	own, e := p.Make()
	want(t, "Make", e, api.OK)
	x := mustNew(t, p)
	pins(t, x, 1)
	var notes []Note
	for k := 1; k <= 5; k++ {
		notes = append(notes, retire(t, x, "abc"))
		advances(t, x, k+1)
		pins(t, x, k+1)
	}
	want(t, "Unpin", x.Unpin(1), api.OK)
	collects(t, x, 1)
	wantRoom(t, p, 4, 6)
	want(t, "Close", x.Close(), api.OK)
	wantRoom(t, p, 8, 1)
	for i := range 5 {
		if b, _ := p.Raw(i); !bytes.Equal(b, bytes.Repeat([]byte{0xDD}, 64)) {
			t.Errorf("slab %d: %x", i, b)
		}
	}
	was := raw(p)
	answersNone(t, x, notes...)
	// What is begun anew stands on its own.
	y := mustNew(t, p)
	wantNow(t, y, 1, 1, 0, 1)
	wantNoLoad(t, y, notes[0], api.ErrArg)
	retire(t, y, "def")
	answersNone(t, x, notes...)
	wantNow(t, y, 1, 1, 3, 1)
	want(t, "Close", y.Close(), api.OK)
	if _, e := p.Slabs(own); e != api.OK || raw(p) != was {
		t.Error("another's region is gone")
	}
}

// P12.1: a nil one, and one that New didn't make, has nothing and takes nothing.
func TestNil(t *testing.T) {
	notes := []Note{{}, {Epoch: 1}, {Epoch: 1, At: region.Handle{Gen: 1, Len: 1}}}
	answersNone(t, nil, notes...)
	answersNone(t, &Epochs{}, notes...)
}

// answersNone: all calls answer as those of a nil one.
func answersNone(t *testing.T, x *Epochs, notes ...Note) {
	t.Helper()
	for range 2 {
		if x.Now() != 0 || x.Oldest() != 0 || x.Kept() != 0 || len(x.Live()) != 0 {
			t.Error(x.Now(), x.Oldest(), x.Kept(), x.Live())
		}
		wantNone(t, "Pin", api.ErrArg)(x.Pin())
		wantNone(t, "Advance", api.ErrArg)(x.Advance())
		wantNone(t, "Collect", api.ErrArg)(x.Collect())
		want(t, "Close", x.Close(), api.ErrArg)
		for _, pin := range append([]int{1, 2, 3}, wild...) {
			want(t, "Unpin", x.Unpin(pin), api.ErrArg)
		}
		for _, b := range [][]byte{nil, {}, {1}, make([]byte, 100)} {
			if n, e := x.Retire(b); n != (Note{}) || e != api.ErrArg {
				t.Error(n, e)
			}
		}
		for _, n := range notes {
			wantNoLoad(t, x, n, api.ErrArg)
		}
	}
}

// P12.4: refused calls change nothing, those to come neither.
func TestRefusedChangeNothing(t *testing.T) {
	p := mustPool(t, 64, 3)
	x := mustNew(t, p)
	pins(t, x, 1)
	a := retire(t, x, strings.Repeat("a", 64))
	advances(t, x, 2)
	for k := 2; k <= 1000; k++ {
		pins(t, x, k)
	}
	b := retire(t, x, strings.Repeat("b", 64))
	c := retire(t, x, strings.Repeat("c", 60))
	fill(t, p)
	was := tell(x, p, a, b, c)
	for range 3 {
		wantNone(t, "Pin", api.ErrBig)(x.Pin())
		wantNone(t, "Advance", api.ErrSpace)(x.Advance())
		for _, pin := range append([]int{1001, 1002}, wild...) {
			want(t, "Unpin", x.Unpin(pin), api.ErrMiss)
		}
		for size, wanted := range map[int]api.Errno{0: api.ErrArg, 5: api.ErrSpace, 64: api.ErrSpace, 65: api.ErrArg} {
			if n, e := x.Retire(make([]byte, size)); n != (Note{}) || e != wanted {
				t.Error(size, n, e)
			}
		}
		wantNoLoad(t, x, Note{1, b.At}, api.ErrArg)
		wantNoLoad(t, x, Note{3, b.At}, api.ErrStale)
		if tell(x, p, a, b, c) != was {
			t.Fatal("a refused call changed something")
		}
	}
	want(t, "Unpin", x.Unpin(1), api.OK)
	pins(t, x, 1001)
	d := retire(t, x, "dddd")
	if d != (Note{2, region.Handle{Region: b.At.Region, Gen: b.At.Gen, Off: 124, Len: 4}}) {
		t.Error(d)
	}
	collects(t, x, 1)
	advances(t, x, 3)
	wantNow(t, x, 3, 2, 128, 2, 3)
}

// P12.5: what is handed in isn't kept, nor changed, its spare room neither.
func TestArgumentsStay(t *testing.T) {
	x := mustNew(t, mustPool(t, 64, 4))
	room := []byte("..some bytes..")
	b := room[2:12:14]
	n, e := x.Retire(b)
	want(t, "Retire", e, api.OK)
	if string(room) != "..some bytes.." {
		t.Errorf("%q", room)
	}
	for i := range room {
		room[i] = '#'
	}
	wantLoad(t, x, n, "some bytes")
	m, e := x.Retire(b)
	want(t, "Retire", e, api.OK)
	if got, _ := x.Load(m); unsafe.SliceData(got) == unsafe.SliceData(b) {
		t.Error("Load answers what was handed in")
	}
	if _, e := x.Retire(room[:0]); e != api.ErrArg || string(room) != "##############" {
		t.Errorf("%d, %q", e, room)
	}
}

// P12.5: answers are new memory, each time.
func TestAnswersAreNew(t *testing.T) {
	p := mustPool(t, 64, 4)
	x := mustNew(t, p)
	n := retire(t, x, "some bytes")
	advances(t, x, 2)
	was := tell(x, p, n)
	for range 3 {
		b, _ := x.Load(n)
		b = b[:cap(b)]
		for i := range b {
			b[i] = '#'
		}
		live := x.Live()
		live = live[:cap(live)]
		for i := range live {
			live[i] = 77
		}
		if tell(x, p, n) != was {
			t.Fatal("an answer is what epochs keep")
		}
	}
	a, b := x.Live(), x.Live()
	if unsafe.SliceData(a) == unsafe.SliceData(b) {
		t.Error("two answers share memory")
	}
	c, _ := x.Load(n)
	d, _ := x.Load(n)
	if unsafe.SliceData(c) == unsafe.SliceData(d) {
		t.Error("two answers share memory")
	}
}

// P1: a pool whose regions are freed, by others, under the epochs: all calls end, and nothing is loaded that isn't there.
func TestFreedUnder(t *testing.T) {
	p := mustPool(t, 64, 4)
	x := mustNew(t, p)
	a := retire(t, x, "abc")
	want(t, "Free", p.Free(a.At.Region), api.OK)
	wantNoLoad(t, x, a, api.ErrStale)
	if n, e := x.Retire([]byte("def")); n != (Note{}) || e != api.ErrMiss {
		t.Error(n, e)
	}
	wantNow(t, x, 1, 1, 3, 1)
	number, e := p.Make()
	want(t, "Make", e, api.OK)
	_, e = p.Alloc(number, 3, 1)
	want(t, "Alloc", e, api.OK)
	// The same place has another one's bytes: the note's generation tells.
	wantNoLoad(t, x, a, api.ErrStale)
	want(t, "Free", p.Free(number), api.OK)
	fill(t, p)
	want(t, "Free", p.Free(255), api.OK)
	advances(t, x, 2)
	want(t, "Free", p.Free(0), api.OK)
	collects(t, x, 1)
	wantNow(t, x, 2, 2, 0, 2)
	want(t, "Free", p.Free(255), api.OK)
	want(t, "Close", x.Close(), api.OK)
	answersNone(t, x, a)
}
