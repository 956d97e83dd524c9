package fs

import (
	"fmt"
	"maps"
	"math"
	"math/big"
	"slices"
	"strings"
	"testing"

	"assart/api"
)

// draw is a row of numbers that is the same in every run.
type draw uint64

func (d *draw) below(n int) int {
	*d = *d*6364136223846793005 + 1442695040888963407
	return int(uint64(*d)>>33) % n
}

func (d *draw) bytes(n int) []byte {
	b := make([]byte, n)
	for i := range b {
		b[i] = byte(d.below(256))
	}
	return b
}

// picks are some, of all sizes and signs.
func (d *draw) picks() []int {
	l := make([]int, d.below(7))
	for i := range l {
		switch d.below(5) {
		case 0:
			l[i] = -d.below(40)
		case 1:
			l[i] = []int{math.MinInt, math.MinInt + 1, math.MaxInt, math.MaxInt - 1, 1 << 32, -1 << 32}[d.below(6)]
		default:
			l[i] = d.below(40)
		}
	}
	return l
}

// act does something drawn to files of these names.
func (f *FS) act(d *draw, names []string) {
	a, b := names[d.below(len(names))], names[d.below(len(names))]
	switch d.below(7) {
	case 0, 1:
		f.Create(a)
	case 2:
		f.Append(a, d.bytes(d.below(9)))
	case 3:
		f.Sync(a)
	case 4:
		f.Rename(a, b)
	case 5:
		f.Remove(a)
	default:
		f.SyncDir()
	}
}

// model is a directory as its history: the names as they were behind the last SyncDir, and behind each change since. Files are numbers there, so that one that no name has any longer may come back.
type model struct {
	room  int
	shots []map[string]int
	files []modelFile
	count int // -1: not armed
	off   bool
}

type modelFile struct {
	data  string
	lasts int
}

func newModel(room int) *model {
	return &model{room: room, shots: []map[string]int{{}}, count: -1}
}

// now answers the names that are there.
func (m *model) now() map[string]int {
	return m.shots[len(m.shots)-1]
}

func (m *model) used() int {
	n := 0
	for _, i := range m.now() {
		n += len(m.files[i].data)
	}
	return n
}

// asks answers the first error whose condition holds; then what the power says of a change, or of another call.
func (m *model) asks(change bool, errors ...any) api.Errno {
	for i := 0; i < len(errors); i += 2 {
		if errors[i].(bool) {
			return errors[i+1].(api.Errno)
		}
	}
	if change && !m.off && m.count >= 0 {
		m.off = m.count == 0
		m.count--
	}
	if m.off {
		return api.ErrDown
	}
	return api.OK
}

// next writes down what the names are behind one change more.
func (m *model) next(change func(names map[string]int)) {
	shot := maps.Clone(m.now())
	change(shot)
	m.shots = append(m.shots, shot)
}

func isName(s string) bool {
	return len(s) > 0 && len(s) < 25 && strings.Trim(s, "abcdefghijklmnopqrstuvwxyz0123456789.-") == ""
}

func (m *model) create(name string) api.Errno {
	_, there := m.now()[name]
	e := m.asks(true, !isName(name), api.ErrName, there, api.ErrThere, len(m.now()) == 400, api.ErrBig)
	if e == api.OK {
		m.files = append(m.files, modelFile{})
		m.next(func(names map[string]int) { names[name] = len(m.files) - 1 })
	}
	return e
}

func (m *model) append(name string, b []byte) api.Errno {
	i, there := m.now()[name]
	big := there && len(m.files[i].data)+len(b) > 1048576
	e := m.asks(true, !isName(name), api.ErrName, !there, api.ErrMiss, big, api.ErrBig, m.used()+len(b) > m.room, api.ErrSpace)
	if e == api.OK {
		m.files[i].data += string(b)
	}
	return e
}

func (m *model) read(name string, off, n int) (string, api.Errno) {
	i, there := m.now()[name]
	data := ""
	if there {
		data = m.files[i].data
	}
	e := m.asks(false, !isName(name), api.ErrName, !there, api.ErrMiss, off < 0 || n < 0 || off > len(data), api.ErrArg)
	if e != api.OK {
		return "", e
	}
	out := ""
	for k := off; k < len(data) && k-off < n; k++ {
		out += data[k : k+1]
	}
	return out, e
}

func (m *model) sync(name string) api.Errno {
	i, there := m.now()[name]
	e := m.asks(true, !isName(name), api.ErrName, !there, api.ErrMiss)
	if e == api.OK {
		m.files[i].lasts = len(m.files[i].data)
	}
	return e
}

func (m *model) rename(from, to string) api.Errno {
	i, there := m.now()[from]
	e := m.asks(true, !isName(from) || !isName(to), api.ErrName, !there, api.ErrMiss)
	if e == api.OK && from != to {
		m.next(func(names map[string]int) {
			names[to] = i
			delete(names, from)
		})
	}
	return e
}

func (m *model) remove(name string) api.Errno {
	_, there := m.now()[name]
	e := m.asks(true, !isName(name), api.ErrName, !there, api.ErrMiss)
	if e == api.OK {
		m.next(func(names map[string]int) { delete(names, name) })
	}
	return e
}

func (m *model) syncDir() api.Errno {
	e := m.asks(true)
	if e == api.OK {
		m.shots = m.shots[len(m.shots)-1:]
	}
	return e
}

// rest answers a pick modulo n, by numbers without an end, and whether it is odd.
func rest(pick, n int) (int, bool) {
	p := big.NewInt(int64(pick))
	if pick < 0 {
		p.Add(p, new(big.Int).Lsh(big.NewInt(1), 64))
	}
	odd := p.Bit(0) == 1
	return int(p.Mod(p, big.NewInt(int64(n))).Int64()), odd
}

func (m *model) crash(picks []int) {
	picks = append(slices.Clone(picks), make([]int, 500)...)
	k, _ := rest(picks[0], len(m.shots))
	m.shots = m.shots[k : k+1]
	at := 1
	for _, name := range slices.Sorted(maps.Keys(m.now())) {
		x := &m.files[m.now()[name]]
		loose := len(x.data) - x.lasts
		if loose == 0 {
			continue
		}
		kept, odd := rest(picks[at], loose+1)
		at++
		b := []byte(x.data[:x.lasts+kept])
		if odd && kept > 0 {
			b[len(b)-1] ^= 0x55
		}
		*x = modelFile{string(b), len(b)}
	}
	m.off, m.count = false, -1
}

// check holds all that a directory tells against the model.
func (m *model) check(t *testing.T, f *FS, what string) {
	t.Helper()
	if f.Off() != m.off || f.Used() != m.used() {
		t.Fatal(what, "Off", f.Off(), m.off, "Used", f.Used(), m.used())
	}
	names, e := f.List()
	if m.off {
		if e != api.ErrDown || len(names) != 0 {
			t.Fatal(what, "List", names, e)
		}
		return
	}
	if wanted := slices.Sorted(maps.Keys(m.now())); e != api.OK || !slices.Equal(names, wanted) {
		t.Fatal(what, "List", names, e, wanted)
	}
	for _, name := range names {
		data := m.files[m.now()[name]].data
		n, e := f.Size(name)
		b, e2 := f.Read(name, 0, len(data)+1)
		if n != len(data) || e != api.OK || string(b) != data || e2 != api.OK {
			t.Fatalf("%s: %s: %d, %q, %d, %d, want %q", what, name, n, b, e, e2, data)
		}
	}
}

// both asks both for one drawn call, and answers what it was and what they said.
func both(d *draw, f *FS, m *model, names []string) (string, api.Errno, api.Errno) {
	a, b := names[d.below(len(names))], names[d.below(len(names))]
	switch d.below(16) {
	case 0, 1, 2:
		return "Create " + a, f.Create(a), m.create(a)
	case 3, 4, 5, 6:
		bytes := d.bytes(d.below(12))
		return "Append " + a, f.Append(a, bytes), m.append(a, bytes)
	case 7:
		off, n := d.below(20)-2, d.below(20)-2
		got, e := f.Read(a, off, n)
		wanted, e2 := m.read(a, off, n)
		if string(got) != wanted {
			return fmt.Sprintf("Read %s %d %d: %q, want %q", a, off, n, got, wanted), e, -1
		}
		return "Read " + a, e, e2
	case 8:
		return "Sync " + a, f.Sync(a), m.sync(a)
	case 9, 10:
		return "Rename " + a + " " + b, f.Rename(a, b), m.rename(a, b)
	case 11, 12:
		return "Remove " + a, f.Remove(a), m.remove(a)
	case 13:
		return "SyncDir", f.SyncDir(), m.syncDir()
	case 14:
		if d.below(3) == 0 {
			n := d.below(15) - 2
			f.Arm(n)
			m.count = max(n, -1)
			return fmt.Sprint("Arm ", n), 0, 0
		}
	default:
		if d.below(2) == 0 || m.off {
			picks := d.picks()
			f.Crash(picks)
			m.crash(picks)
			return fmt.Sprint("Crash ", picks), 0, 0
		}
	}
	return "", 0, 0
}

// P7.1 to P7.4: drawn calls are answered as the history of the names, and the files' bytes beside it, answer them.
func TestModel(t *testing.T) {
	d := draw(1)
	for _, names := range [][]string{{"a"}, {"a", "b"}, {"b", "a", "A"}, {"a", "b", "c", "d", ""}, {"a-", "a.", "a", "a0", "aa", "b", "0", "a b"}} {
		for _, room := range []int{0, 20, 60, 100000} {
			for range 25 {
				f, m := mustNew(t, room), newModel(room)
				for range 150 {
					what, e, wanted := both(&d, f, m, names)
					want(t, what, e, wanted)
					m.check(t, f, what)
				}
			}
		}
	}
}

// P7.1: drawn calls among as many files as there may be.
func TestModelOfManyFiles(t *testing.T) {
	d := draw(3)
	names := make([]string, 405)
	for i := range names {
		names[i] = strings.Repeat("n", i%3) + fmt.Sprint(i)
	}
	f, m := mustNew(t, 3000), newModel(3000)
	full := 0
	for i := range 4000 {
		name := names[i%len(names)]
		what, e, wanted := "Create "+name, f.Create(name), m.create(name)
		if e == api.ErrBig {
			full++
		}
		want(t, what, e, wanted)
		if d.below(6) == 0 {
			what, e, wanted = both(&d, f, m, names)
			want(t, what, e, wanted)
		}
		if i%50 == 0 {
			m.check(t, f, what)
		}
		if m.off {
			f.Crash([]int{-1})
			m.crash([]int{-1})
		}
	}
	if full == 0 {
		t.Error("never full")
	}
}

// P1: no call panics, whatever it is given, on directories in any state.
func TestNoPanic(t *testing.T) {
	odd := []int{math.MinInt, math.MinInt + 1, -1 << 32, -2, -1, 0, 1, 2, 3, 4, 85, 1 << 20, 1 << 30, 1<<30 + 1, 1 << 32, math.MaxInt - 1, math.MaxInt}
	names := append([]string{"a", "b", "none"}, badNames...)
	for state := range 4 {
		for _, a := range odd {
			New(a)
			for _, b := range odd {
				var f *FS
				if state > 0 {
					f = &FS{}
				}
				if state > 1 {
					f = mustNew(t, 100)
					mustLast(t, f, "a", "xyz")
					f.Append("a", []byte("123"))
					mustMake(t, f, "b", "4567")
				}
				if state > 2 {
					f.Arm(0)
					f.SyncDir()
				}
				for _, name := range names {
					f.Read(name, a, b)
				}
				f.Arm(b)
				for _, name := range names {
					f.Create(name)
					f.Append(name, []byte("x"))
					f.Sync(name)
					f.Rename(name, names[len(name)%len(names)])
					f.Size(name)
				}
				f.Crash([]int{a, b, a, b})
				f.Append("a", []byte("more"))
				f.Crash([]int{b, a})
				f.List()
				f.Used()
				f.Off()
			}
		}
	}
}
