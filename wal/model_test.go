package wal

import (
	"fmt"
	"math"
	"regexp"
	"slices"
	"strconv"
	"strings"
	"testing"

	"assart/api"
	"assart/frame"
	"assart/fs"
)

// The model lists the steps of a call on files of its own, ahead of doing the first one.

// drawn answers numbers that look at random and are the same each time.
type drawn uint64

func (d *drawn) below(n int) int {
	*d = *d*6364136223846793005 + 1442695040888963407
	return int(uint64(*d)>>33) % n
}

// rec answers a record of so many bytes.
func (d *drawn) rec(size int) []byte {
	b := make([]byte, size)
	for i := range b {
		b[i] = byte(d.below(256))
	}
	return b
}

// picks answers some for a crash, small ones and odd ones among them.
func (d *drawn) picks() []int {
	l := make([]int, d.below(5))
	for i := range l {
		l[i] = []int{d.below(4), d.below(40), d.below(1000), -d.below(40), math.MaxInt, math.MinInt}[d.below(6)]
	}
	return l
}

type step func() api.Errno

// inOrder does steps up to the first one that is refused.
func inOrder(steps []step) api.Errno {
	for _, s := range steps {
		if e := s(); e != api.OK {
			return e
		}
	}
	return api.OK
}

func named(number int) string {
	return fmt.Sprintf("%06d.log", number)
}

type model struct {
	f             *fs.FS
	number, limit int
}

func (m *model) create(number int) step {
	return func() api.Errno { return m.f.Create(named(number)) }
}

func (m *model) syncOf(number int) step {
	return func() api.Errno { return m.f.Sync(named(number)) }
}

func (m *model) becomes(number int) step {
	return func() api.Errno {
		m.number = number
		return api.OK
	}
}

func (m *model) lay(number, at int, rec []byte) step {
	return func() api.Errno {
		b, _ := frame.Frame(at, rec)
		return m.f.Append(named(number), b)
	}
}

func newModel(f *fs.FS, number, limit int) (*model, api.Errno) {
	m := &model{f, number, limit}
	if f == nil || number < 1 || number > 999999 || limit < 1 || limit > 1048576 {
		return nil, api.ErrArg
	}
	if e := inOrder([]step{m.create(number), f.SyncDir}); e != api.OK {
		return nil, e
	}
	return m, api.OK
}

func (m *model) append(rec []byte, sync bool) api.Errno {
	size, e := m.f.Size(named(m.number))
	full := size >= m.limit
	switch {
	case len(rec) > 300000:
		return api.ErrBig
	case e != api.OK:
		return e
	case full && m.number == 999999:
		return api.ErrOver
	}
	to, steps := m.number, []step(nil)
	if full {
		to, size = m.number+1, 0
		steps = []step{m.syncOf(m.number), m.create(to), m.f.SyncDir, m.becomes(to)}
	}
	steps = append(steps, m.lay(to, size, rec))
	if sync {
		steps = append(steps, m.syncOf(to))
	}
	return inOrder(steps)
}

func (m *model) sync() api.Errno {
	return m.f.Sync(named(m.number))
}

var logs = regexp.MustCompile(`^([0-9]{6})\.log$`)

func modelNumbers(f *fs.FS) ([]int, api.Errno) {
	names, e := f.List()
	var numbers []int
	for _, name := range names {
		if found := logs.FindStringSubmatch(name); found != nil && found[1] != "000000" {
			n, _ := strconv.Atoi(strings.TrimLeft(found[1], "0"))
			numbers = append(numbers, n)
		}
	}
	slices.Sort(numbers)
	return numbers, e
}

func modelReplay(f *fs.FS, from int) ([]string, api.Errno) {
	numbers, e := modelNumbers(f)
	var recs []string
	for _, n := range numbers {
		if n >= from {
			size, _ := f.Size(named(n))
			b, _ := f.Read(named(n), 0, size)
			found, _ := frame.Scan(b)
			recs = append(recs, found...)
		}
	}
	return recs, e
}

func modelDrop(f *fs.FS, below int) (int, api.Errno) {
	numbers, e := modelNumbers(f)
	if e != api.OK {
		return 0, e
	}
	var steps []step
	for _, n := range numbers {
		if n < below {
			steps = append(steps, func() api.Errno { return f.Remove(named(n)) })
		}
	}
	if len(steps) == 0 {
		return 0, api.OK
	}
	if e := inOrder(append(steps, f.SyncDir)); e != api.OK {
		return 0, e
	}
	return len(steps), api.OK
}

// pair is a log and its model, each with files of its own; both are told the same.
type pair struct {
	t    *testing.T
	f    *fs.FS
	l    *Log
	m    *model
	said string // what was called so far
}

func newPair(t *testing.T, room int) *pair {
	t.Helper()
	mf := mustFS(t, room)
	return &pair{t: t, f: mustFS(t, room), m: &model{f: mf}}
}

// says writes a call down, and holds the two answers against each other, and all that the files tell.
func (p *pair) says(what string, got, wanted any) {
	p.t.Helper()
	p.said += what + "; "
	if fmt.Sprint(got) != fmt.Sprint(wanted) {
		p.t.Fatalf("%s: %.200v, want %.200v", p.said, got, wanted)
	}
	if p.l.Number() != p.m.number {
		p.t.Fatalf("%s: number %d, want %d", p.said, p.l.Number(), p.m.number)
	}
	if got, wanted := tell(p.f), tell(p.m.f); got != wanted {
		p.t.Fatalf("%s: files %.500q, want %.500q", p.said, got, wanted)
	}
}

// begin asks for a new log, and keeps the elder one where that is refused.
func (p *pair) begin(number, limit int) {
	p.t.Helper()
	l, e := New(p.f, number, limit)
	m, e2 := newModel(p.m.f, number, limit)
	if (l != nil) != (e == api.OK) {
		p.t.Fatal(p.said, l, e)
	}
	if l != nil && m != nil {
		p.l, p.m = l, m
	}
	p.says(fmt.Sprint("New ", number, limit), e, e2)
}

func (p *pair) append(rec []byte, sync bool) {
	p.t.Helper()
	p.says(fmt.Sprint("Append ", len(rec), sync), p.l.Append(rec, sync), p.m.append(rec, sync))
}

func (p *pair) sync() {
	p.t.Helper()
	p.says("Sync", p.l.Sync(), p.m.sync())
}

func (p *pair) numbers() {
	p.t.Helper()
	got, e := Numbers(p.f)
	wanted, e2 := modelNumbers(p.m.f)
	p.says("Numbers", fmt.Sprint(got, e), fmt.Sprint(wanted, e2))
}

func (p *pair) replay(from int) {
	p.t.Helper()
	got, e := Replay(p.f, from)
	wanted, e2 := modelReplay(p.m.f, from)
	p.says(fmt.Sprint("Replay ", from), fmt.Sprintf("%q %d", got, e), fmt.Sprintf("%q %d", wanted, e2))
}

func (p *pair) drop(below int) {
	p.t.Helper()
	got, e := Drop(p.f, below)
	wanted, e2 := modelDrop(p.m.f, below)
	p.says(fmt.Sprint("Drop ", below), fmt.Sprint(got, e), fmt.Sprint(wanted, e2))
}

// files does the same to the files of both, behind the log's back.
func (p *pair) files(what string, do func(f *fs.FS)) {
	p.t.Helper()
	do(p.f)
	do(p.m.f)
	p.says(what, nil, nil)
}

func (p *pair) arm(n int) {
	p.t.Helper()
	p.files(fmt.Sprint("Arm ", n), func(f *fs.FS) { f.Arm(n) })
}

func (p *pair) crash(picks ...int) {
	p.t.Helper()
	p.files(fmt.Sprint("Crash ", picks), func(f *fs.FS) { f.Crash(picks) })
}

// act asks both for one drawn call.
func (p *pair) act(d *drawn) {
	p.t.Helper()
	switch d.below(16) {
	case 0:
		p.begin([]int{p.m.number + 1, p.m.number + d.below(4), d.below(9) - 1, 999994 + d.below(7)}[d.below(4)], 1+d.below(300))
	case 1, 2, 3, 4, 5, 6:
		p.append(d.rec(d.below([]int{4, 150, 400}[d.below(3)])), d.below(3) == 0)
	case 7:
		p.sync()
	case 8:
		p.numbers()
	case 9, 10:
		p.replay(p.m.number - d.below(5))
	case 11:
		p.drop(p.m.number - d.below(5) + d.below(2))
	case 12:
		p.drop(d.below(p.m.number + 3))
	case 13:
		p.arm(d.below(12) - 3)
	case 14:
		p.beside(d)
	default:
		if p.f.Off() || d.below(2) == 0 {
			p.crash(d.picks()...)
		}
	}
}

// beside does something to the files that no log does.
func (p *pair) beside(d *drawn) {
	p.t.Helper()
	other := []string{"000000.log", "current", "00001.log", "1000000.log", "-00001.log", "000001.sst"}[d.below(6)]
	number := max(1, p.m.number+d.below(4)-1)
	switch d.below(4) {
	case 0, 1:
		p.files("Create "+other, func(f *fs.FS) { f.Create(other) })
	case 2:
		p.files(fmt.Sprint("Create ", number), func(f *fs.FS) { f.Create(named(number)) })
	default:
		p.files(fmt.Sprint("spoil ", number), func(f *fs.FS) { f.Append(named(number), []byte("what is no record")) })
	}
}

// P10.1: drawn calls, in all states of the power, are answered as the steps answer, and leave what they leave, behind crashes too.
func TestModel(t *testing.T) {
	d := drawn(1)
	for _, room := range []int{0, 700, 3000, 1 << 20} {
		for range 500 {
			p := newPair(t, room)
			p.begin(1+d.below(5), 1+d.below(300))
			for range 60 {
				p.act(&d)
			}
			p.crash(d.picks()...)
			p.replay(0)
		}
	}
}
