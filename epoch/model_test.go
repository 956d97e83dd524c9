package epoch

import (
	"fmt"
	"slices"
	"strings"
	"testing"

	"assart/api"
	"assart/region"
)

// The model keeps all epochs that there ever were, one behind the other, and does in a pool of its own, which is as great, what they must do in theirs.

// drawn answers numbers that look at random and are the same each time.
type drawn uint64

func (d *drawn) below(n int) int {
	*d = *d*6364136223846793005 + 1442695040888963407
	return int(uint64(*d)>>33) % n
}

// past is an epoch of the model.
type past struct {
	region int
	freed  bool
	at     []region.Handle
	bytes  []string
}

type model struct {
	pool   *region.Pool
	epochs []past      // the first one is epoch 1
	pins   map[int]int // of each that is there its epoch
	made   int
	closed bool
}

func newModel(p *region.Pool) *model {
	m := &model{pool: p, pins: map[int]int{}}
	m.advance()
	return m
}

func (m *model) now() int {
	if m.closed {
		return 0
	}
	return len(m.epochs)
}

func (m *model) pin() (int, api.Errno) {
	switch {
	case m.closed:
		return 0, api.ErrArg
	case len(m.pins) >= 1000:
		return 0, api.ErrBig
	}
	m.made++
	m.pins[m.made] = m.now()
	return m.made, api.OK
}

func (m *model) unpin(number int) api.Errno {
	if m.closed {
		return api.ErrArg
	}
	if _, found := m.pins[number]; !found {
		return api.ErrMiss
	}
	delete(m.pins, number)
	return api.OK
}

func (m *model) retire(s string) (Note, api.Errno) {
	if m.closed {
		return Note{}, api.ErrArg
	}
	last := &m.epochs[len(m.epochs)-1]
	h, e := m.pool.Alloc(last.region, len(s), 1)
	if e != api.OK {
		return Note{}, e
	}
	m.pool.Store(h, 0, []byte(s))
	last.at, last.bytes = append(last.at, h), append(last.bytes, s)
	return Note{Epoch: len(m.epochs), At: h}, api.OK
}

func (m *model) load(n Note) (string, api.Errno) {
	switch {
	case m.closed:
		return "", api.ErrArg
	case n.Epoch < 1, n.Epoch > len(m.epochs), m.epochs[n.Epoch-1].freed:
		return "", api.ErrStale
	}
	if i := slices.Index(m.epochs[n.Epoch-1].at, n.At); i >= 0 {
		return m.epochs[n.Epoch-1].bytes[i], api.OK
	}
	return "", api.ErrArg
}

func (m *model) advance() (int, api.Errno) {
	if m.closed {
		return 0, api.ErrArg
	}
	number, e := m.pool.Make()
	if e != api.OK {
		return 0, e
	}
	m.epochs = append(m.epochs, past{region: number})
	return len(m.epochs), api.OK
}

func (m *model) oldest() int {
	oldest := m.now()
	if !m.closed {
		for _, epoch := range m.pins {
			oldest = min(oldest, epoch)
		}
	}
	return oldest
}

func (m *model) collect() (int, api.Errno) {
	if m.closed {
		return 0, api.ErrArg
	}
	return m.free(m.oldest()), api.OK
}

// free frees all below an epoch.
func (m *model) free(below int) int {
	count := 0
	for i := range m.epochs {
		if p := &m.epochs[i]; i+1 < below && !p.freed {
			m.pool.Free(p.region)
			p.freed = true
			count++
		}
	}
	return count
}

func (m *model) live() []int {
	var live []int
	for i, p := range m.epochs {
		if !m.closed && !p.freed {
			live = append(live, i+1)
		}
	}
	return live
}

func (m *model) kept() int {
	kept := 0
	for _, number := range m.live() {
		for _, s := range m.epochs[number-1].bytes {
			kept += len(s)
		}
	}
	return kept
}

func (m *model) end() api.Errno {
	if m.closed {
		return api.ErrArg
	}
	m.free(len(m.epochs) + 1)
	m.closed = true
	return api.OK
}

// bytes answers some, now and then more than a slab has, or none.
func (d *drawn) bytes(size int) string {
	count := 1 + d.below(size/3)
	switch d.below(12) {
	case 0:
		count = 0
	case 1:
		count = size - 1 + d.below(3)
	}
	b := make([]byte, count)
	for i := range b {
		b[i] = byte(d.below(256))
	}
	return string(b)
}

// note answers one that was told, or one that is bent.
func (d *drawn) note(told []Note) Note {
	n := Note{Epoch: 1 + d.below(4), At: region.Handle{Region: d.below(4), Gen: 1 + d.below(3), Off: d.below(64), Len: 1 + d.below(10)}}
	if len(told) > 0 {
		n = told[d.below(len(told))]
		if d.below(3) > 0 {
			n = told[max(0, len(told)-1-d.below(20))]
		}
	}
	by := d.below(3) - 1
	switch d.below(12) {
	case 0:
		n.Epoch += by
	case 1:
		n.At.Region += by
	case 2:
		n.At.Gen += by
	case 3:
		n.At.Off += by
	case 4:
		n.At.Len += by
	}
	return n
}

// pair is epochs and their model, each in a pool of its own.
type pair struct {
	x    *Epochs
	m    *model
	told []Note
}

// step does one drawn call on both, and answers what it was, what came of it, and what must have come.
func (d *drawn) step(q *pair, size int) (what, got, wanted string) {
	switch k := d.below(100); {
	case k < 12:
		return "Pin", both(q.x.Pin()), both(q.m.pin())
	case k < 28:
		number := max(-1, q.m.made+1-d.below(8))
		if d.below(5) == 0 {
			number = q.leastPin()
		}
		return fmt.Sprint("Unpin ", number), fmt.Sprint(q.x.Unpin(number)), fmt.Sprint(q.m.unpin(number))
	case k < 55:
		s := d.bytes(size)
		n, e := q.x.Retire([]byte(s))
		if e == api.OK {
			q.told = append(q.told, n)
		}
		return "Retire", both(n, e), both(q.m.retire(s))
	case k < 75:
		n := d.note(q.told)
		b, e := q.x.Load(n)
		return fmt.Sprint("Load ", n), both(string(b), e), both(q.m.load(n))
	case k < 86:
		return "Advance", both(q.x.Advance()), both(q.m.advance())
	}
	return "Collect", both(q.x.Collect()), both(q.m.collect())
}

// leastPin answers the number of the first pin that is there, so that epochs are let go.
func (q *pair) leastPin() int {
	least := 0
	for number := range q.m.pins {
		if least == 0 || number < least {
			least = number
		}
	}
	return least
}

func both[T any](a T, e api.Errno) string { return fmt.Sprintf("%v, %d", a, e) }

// wantSame: epochs and their pool are as the model and its own.
func (q *pair) wantSame(t *testing.T, p *region.Pool) {
	t.Helper()
	if q.x.Now() != q.m.now() || q.x.Oldest() != q.m.oldest() || q.x.Kept() != q.m.kept() || !slices.Equal(q.x.Live(), q.m.live()) {
		t.Fatalf("%d %d %d %v, want %d %d %d %v", q.x.Now(), q.x.Oldest(), q.x.Kept(), q.x.Live(), q.m.now(), q.m.oldest(), q.m.kept(), q.m.live())
	}
	if raw(p) != raw(q.m.pool) {
		t.Fatal("the pools' bytes, or their slabs, are others")
	}
}

// P12.1 to P12.4: drawn calls answer as the model's, and leave the same in the pool; all notes are asked now and then.
func TestModel(t *testing.T) {
	for seed := range 60 {
		d := drawn(seed)
		size := 64 + 8*d.below(5)
		slabs := 1 + d.below(30)
		p, mirror := mustPool(t, size, slabs), mustPool(t, size, slabs)
		// Both pools have regions already, so that numbers of epochs and of regions differ; in some there is room for few more.
		for range d.below(3) + []int{0, 0, 250}[d.below(3)] {
			p.Make()
			mirror.Make()
		}
		q := &pair{x: mustNew(t, p), m: newModel(mirror)}
		for k := range 600 {
			what, got, wanted := d.step(q, size)
			if got != wanted {
				t.Fatalf("seed %d, call %d: %s: %s, want %s", seed, k, what, got, wanted)
			}
			q.wantSame(t, p)
			if k%50 == 0 {
				q.wantNotes(t)
			}
		}
		want(t, "Close", q.x.Close(), q.m.end())
		q.wantSame(t, p)
		q.wantNotes(t)
	}
}

// wantNotes: all notes that were ever told load what they must.
func (q *pair) wantNotes(t *testing.T) {
	t.Helper()
	for _, n := range q.told {
		b, e := q.x.Load(n)
		if s, e2 := q.m.load(n); string(b) != s || e != e2 {
			t.Fatalf("Load %v: %q, %d, want %q, %d", n, b, e, s, e2)
		}
	}
}

// P12.1 to P12.3: in all short orders of calls each answers as the model's.
func TestShortOrders(t *testing.T) {
	const calls, length = 6, 6
	for order := range calls * calls * calls * calls * calls * calls {
		p, mirror := mustPool(t, 64, 2), mustPool(t, 64, 2)
		q := &pair{x: mustNew(t, p), m: newModel(mirror)}
		var story []string
		rest := order
		for range length {
			what, got, wanted := q.call(rest % calls)
			rest /= calls
			story = append(story, what)
			if got != wanted {
				t.Fatalf("%s: %s, want %s", strings.Join(story, ", "), got, wanted)
			}
		}
		if fmt.Sprint(q.x.Now(), q.x.Oldest(), q.x.Kept(), q.x.Live(), p.Idle()) != fmt.Sprint(q.m.now(), q.m.oldest(), q.m.kept(), q.m.live(), mirror.Idle()) {
			t.Fatal(strings.Join(story, ", "))
		}
		q.wantNotes(t)
	}
}

// call does one of few calls on both.
func (q *pair) call(number int) (what, got, wanted string) {
	switch number {
	case 0:
		return "Advance", both(q.x.Advance()), both(q.m.advance())
	case 1:
		return "Pin", both(q.x.Pin()), both(q.m.pin())
	case 2:
		least := q.leastPin()
		return "Unpin the first", fmt.Sprint(q.x.Unpin(least)), fmt.Sprint(q.m.unpin(least))
	case 3:
		return "Unpin the last", fmt.Sprint(q.x.Unpin(q.m.made)), fmt.Sprint(q.m.unpin(q.m.made))
	case 4:
		n, e := q.x.Retire([]byte("abc"))
		if e == api.OK {
			q.told = append(q.told, n)
		}
		return "Retire", both(n, e), both(q.m.retire("abc"))
	}
	return "Collect", both(q.x.Collect()), both(q.m.collect())
}
