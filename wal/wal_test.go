package wal

import (
	"fmt"
	"math"
	"slices"
	"strings"
	"testing"
	"unsafe"

	"assart/api"
	"assart/frame"
	"assart/fs"
)

func mustFS(t *testing.T, room int) *fs.FS {
	t.Helper()
	f, e := fs.New(room)
	want(t, "fs.New", e, api.OK)
	return f
}

// mustNew makes a log that the test needs.
func mustNew(t *testing.T, f *fs.FS, number, limit int) *Log {
	t.Helper()
	l, e := New(f, number, limit)
	want(t, fmt.Sprint("New ", number), e, api.OK)
	return l
}

// mustAppend lays records that don't last.
func mustAppend(t *testing.T, l *Log, recs ...string) {
	t.Helper()
	for _, rec := range recs {
		want(t, "Append", l.Append([]byte(rec), false), api.OK)
	}
}

// want: a call must have answered so.
func want(t *testing.T, what string, got, wanted api.Errno) {
	t.Helper()
	if got != wanted {
		t.Fatalf("%s: %d, want %d", what, got, wanted)
	}
}

// wantReplay: all files tell these records.
func wantReplay(t *testing.T, f *fs.FS, from int, wanted ...string) {
	t.Helper()
	if recs, e := Replay(f, from); !slices.Equal(recs, wanted) || e != api.OK {
		t.Fatalf("Replay from %d: %.200q, %d, want %.200q", from, recs, e, wanted)
	}
}

// wantNumbers: these files are logs'.
func wantNumbers(t *testing.T, f *fs.FS, wanted ...int) {
	t.Helper()
	if numbers, e := Numbers(f); !slices.Equal(numbers, wanted) || e != api.OK {
		t.Fatalf("Numbers: %v, %d, want %v", numbers, e, wanted)
	}
}

// tell is all that files tell of themselves.
func tell(f *fs.FS) string {
	names, e := f.List()
	l := []string{fmt.Sprint(f.Off(), f.Used(), e)}
	for _, name := range names {
		b, e := f.Read(name, 0, math.MaxInt)
		l = append(l, fmt.Sprint(name, "=", string(b), e))
	}
	return strings.Join(l, " ")
}

// changesLeft counts how many changes are done till the power goes off.
func changesLeft(f *fs.FS) int {
	n := 0
	for f.SyncDir() == api.OK {
		n++
	}
	return n
}

func text(size int) string {
	return strings.Repeat("some text ", size/10+1)[:size]
}

// P10.1: the chapter's example.
func TestExample(t *testing.T) {
	f := mustFS(t, 1000)
	l := mustNew(t, f, 1, 100)
	if names, _ := f.List(); !slices.Equal(names, []string{"000001.log"}) {
		t.Error(names)
	}
	mustAppend(t, l, text(200), "x")
	if names, _ := f.List(); !slices.Equal(names, []string{"000001.log", "000002.log"}) || l.Number() != 2 {
		t.Error(names, l.Number())
	}
	wantReplay(t, f, 1, text(200), "x")
	wantReplay(t, f, 2, "x")
	if n, e := Drop(f, 2); n != 1 || e != api.OK {
		t.Error(n, e)
	}
	wantReplay(t, f, 1, "x")
}

// badNumbers, badLimits are none that a log may have.
var (
	badNumbers = []int{0, -1, -17, -999999, 1000000, 1000001, 10000001, 1<<32 + 1, 1<<32 + 1000000, math.MinInt, math.MinInt + 1, math.MaxInt, math.MaxInt - 999999}
	badLimits  = []int{0, -1, 1<<20 + 1, 1 << 21, 1<<32 + 1, math.MinInt, math.MaxInt}
)

// P10.1: the names of all numbers, and of others none.
func TestName(t *testing.T) {
	for n := 1; n < 1000000; n++ {
		if n%7 == 0 || n < 2000 || n > 998000 {
			if s := Name(n); s != named(n) || !fs.IsName(s) {
				t.Fatal(n, s)
			}
		}
	}
	for n, wanted := range map[int]string{1: "000001.log", 17: "000017.log", 120: "000120.log", 100000: "100000.log", 999999: "999999.log"} {
		if s := Name(n); s != wanted {
			t.Error(n, s)
		}
	}
	for _, n := range badNumbers {
		if s := Name(n); s != "" {
			t.Error(n, s)
		}
	}
}

// P10.1: numbers and limits up to their ends; the file is there then, without bytes, and its name lasts.
func TestNew(t *testing.T) {
	for _, number := range []int{1, 2, 99, 999998, 999999} {
		for _, limit := range []int{1, 2, 100, 1<<20 - 1, 1 << 20} {
			f := mustFS(t, 100)
			l := mustNew(t, f, number, limit)
			if l == nil || l.Number() != number {
				t.Error(number, limit, l.Number())
			}
			for range 2 {
				if b, e := f.Read(named(number), 0, 9); len(b) != 0 || e != api.OK || tell(f) != "false 0 0 "+named(number)+"=0" {
					t.Error(number, limit, b, e, tell(f))
				}
				f.Crash(nil)
			}
		}
	}
}

// P10.1: what isn't so is refused, and does nothing, whatever the files say.
func TestNewRefuses(t *testing.T) {
	refused := func(f *fs.FS, number, limit int, wanted api.Errno) {
		t.Helper()
		if l, e := New(f, number, limit); l != nil || e != wanted {
			t.Error(number, limit, l, e, "want", wanted)
		}
	}
	f := mustFS(t, 100)
	mustNew(t, f, 1, 1)
	for _, off := range []bool{false, true} {
		f.Arm(0)
		if off {
			f.SyncDir()
		}
		for _, number := range append(badNumbers, 1, 2) {
			for _, limit := range append(badLimits, 1, 100) {
				refused(nil, number, limit, api.ErrArg)
				if slices.Contains(badNumbers, number) || slices.Contains(badLimits, limit) {
					refused(f, number, limit, api.ErrArg)
				}
			}
		}
		refused(f, 1, 100, api.ErrThere)
		if f.Off() != off {
			t.Fatal(f.Off())
		}
	}
	refused(f, 2, 100, api.ErrDown)
	f.Crash(nil)
	wantNumbers(t, f, 1)
	for i := range 399 {
		want(t, "Create", f.Create(fmt.Sprint(i)), api.OK)
	}
	f.Arm(0)
	refused(f, 2, 100, api.ErrBig)
	refused(f, 1, 100, api.ErrThere)
	if f.Off() {
		t.Error("off")
	}
}

// P10.1: a log whose names weren't synced is none, though its file may be there behind the crash.
func TestNewCutOff(t *testing.T) {
	for changes, wanted := range [][]int{nil, {1}} {
		f := mustFS(t, 100)
		f.Arm(changes)
		if l, e := New(f, 1, 100); l != nil || e != api.ErrDown || !f.Off() {
			t.Error(changes, l, e)
		}
		f.Crash([]int{1})
		wantNumbers(t, f, wanted...)
	}
	f := mustFS(t, 100)
	f.Arm(2)
	mustNew(t, f, 1, 100)
	if n := changesLeft(f); n != 0 {
		t.Error(n)
	}
}

// P10.1: a record goes to the file that has less than limit bytes, and to the next one from there on.
func TestLimit(t *testing.T) {
	for _, limit := range []int{1, 6, 7, 8, 100, 107, 121, 122, 128, 129, 1000} {
		for size := range limit + 20 {
			f := mustFS(t, 10000)
			l := mustNew(t, f, 5, limit)
			mustAppend(t, l, text(size))
			laid, _ := f.Size(named(5))
			next := 5
			if laid >= limit {
				next = 6
			}
			if l.Number() != 5 {
				t.Fatal(limit, size, "not in the first file")
			}
			f.Arm(9)
			mustAppend(t, l, "x")
			if l.Number() != next {
				t.Fatal(limit, size, laid, l.Number())
			}
			if done := 9 - changesLeft(f); done != 1+3*(next-5) {
				t.Fatal(limit, size, done, "changes")
			}
			f.Crash([]int{0, 1000 * 1001})
			if next == 6 {
				wantReplay(t, f, 0, text(size))
			}
		}
	}
}

// P10.1: records lie framed, each where the one ahead ends; a new file begins at its byte 0.
func TestFramed(t *testing.T) {
	sizes := []int{0, 1, 114, 0, 3, 250, 121, 122, 7, 120, 400, 2}
	for _, limit := range []int{1, 100, 130, 500, 5000} {
		f := mustFS(t, 10000)
		l := mustNew(t, f, 9, limit)
		files := []string{""}
		for _, size := range sizes {
			mustAppend(t, l, text(size))
			if len(files[len(files)-1]) >= limit {
				files = append(files, "")
			}
			to := &files[len(files)-1]
			b, _ := frame.Frame(len(*to), []byte(text(size)))
			*to += string(b)
		}
		for i, wanted := range files {
			if b, e := f.Read(named(9+i), 0, 10000); string(b) != wanted || e != api.OK {
				t.Errorf("limit %d, file %d: %q %d, want %q", limit, i, b, e, wanted)
			}
		}
		if l.Number() != 8+len(files) {
			t.Error(limit, l.Number(), len(files))
		}
	}
}

// P10.1: the greatest record, and those that are greater, ahead of all but a nil log.
func TestGreatest(t *testing.T) {
	f := mustFS(t, 1<<30)
	l := mustNew(t, f, 999998, 1)
	greatest := text(300000)
	tooGreat := func() {
		t.Helper()
		for _, size := range []int{300001, 300002, 1 << 20, 1 << 21} {
			want(t, "Append", l.Append(make([]byte, size), true), api.ErrBig)
		}
	}
	tooGreat()
	mustAppend(t, l, greatest, greatest)
	wantReplay(t, f, 0, greatest, greatest)
	want(t, "Append", l.Append(nil, false), api.ErrOver)
	tooGreat()
	f.Arm(0)
	tooGreat()
	want(t, "Sync", l.Sync(), api.ErrDown)
	tooGreat()
	f.Crash([]int{0, 1 << 20})
	f.Remove(named(999999))
	tooGreat()
	wantReplay(t, f, 0, greatest)
	var none *Log
	want(t, "Append", none.Append(make([]byte, 300001), true), api.ErrArg)
}

// P10.1: a file may become as great as files may be, by its limit; what is more is refused by fs, and a lesser record has room still.
func TestGreatestFile(t *testing.T) {
	f := mustFS(t, 1<<30)
	l := mustNew(t, f, 1, 1<<20)
	var recs []string
	size := 0
	lay := func(rec string) {
		mustAppend(t, l, rec)
		recs = append(recs, rec)
		size, _ = f.Size(named(1))
	}
	for size < 1<<20-1000 {
		lay(text(min(300000, (1<<20-size-200)*9/10)))
	}
	before := tell(f)
	want(t, "Append", l.Append(make([]byte, 1000), true), api.ErrBig)
	if l.Number() != 1 || tell(f) != before {
		t.Error("not refused whole")
	}
	for size < 1<<20 {
		lay(text(frame.Room(size)))
	}
	if size != 1<<20 || l.Number() != 1 {
		t.Error(size, l.Number())
	}
	wantReplay(t, f, 1, recs...)
	lay("x")
	if l.Number() != 2 || size != 1<<20 {
		t.Error(l.Number(), size)
	}
	wantReplay(t, f, 1, recs...)
	wantReplay(t, f, 2, "x")
}

// P10.1: without a next number nothing is done, be it to sync the file; a file that isn't full takes records still.
func TestErrOver(t *testing.T) {
	f := mustFS(t, 1000)
	l := mustNew(t, f, 999998, 10)
	mustAppend(t, l, "four", "ab", "")
	if l.Number() != 999999 {
		t.Fatal(l.Number())
	}
	f.Arm(0)
	for range 3 {
		want(t, "Append", l.Append([]byte("x"), true), api.ErrOver)
		want(t, "Append", l.Append(nil, false), api.ErrOver)
	}
	if f.Off() || l.Number() != 999999 {
		t.Error(f.Off(), l.Number())
	}
	want(t, "Sync", l.Sync(), api.ErrDown)
	want(t, "Append, off", l.Append([]byte("x"), true), api.ErrDown)
	f.Crash(nil)
	wantReplay(t, f, 0, "four")
	mustAppend(t, l, text(9))
	want(t, "Append", l.Append([]byte("x"), true), api.ErrOver)
	want(t, "Sync", l.Sync(), api.OK)
	f.Remove(named(999999))
	want(t, "Append, removed", l.Append([]byte("x"), true), api.ErrMiss)
	want(t, "Sync, removed", l.Sync(), api.ErrMiss)
}

// P10.1: a file that can't be begun: the one ahead was synced, and is written still.
func TestNextRefused(t *testing.T) {
	for what, in := range map[string]struct {
		names  []string
		wanted api.Errno
	}{
		"there":     {[]string{named(2)}, api.ErrThere},
		"too many":  {manyNames(399), api.ErrBig},
		"both":      {append(manyNames(398), named(2)), api.ErrThere},
		"free":      {manyNames(398), api.OK},
		"elsewhere": {[]string{named(3), "000000.log"}, api.OK},
	} {
		f := mustFS(t, 1000)
		l := mustNew(t, f, 1, 7)
		for _, name := range in.names {
			want(t, "Create", f.Create(name), api.OK)
		}
		mustAppend(t, l, "first")
		want(t, what, l.Append([]byte("second"), true), in.wanted)
		if in.wanted == api.OK {
			wantReplay(t, f, 0, "first", "second")
			continue
		}
		if l.Number() != 1 {
			t.Error(what, l.Number())
		}
		f.Crash(nil)
		wantReplay(t, f, 0, "first")
		mustAppend(t, l, "second", "third")
		wantReplay(t, f, 0, "first", "second", "third")
	}
}

func manyNames(count int) []string {
	names := make([]string, count)
	for i := range names {
		names[i] = fmt.Sprint("n", i)
	}
	return names
}

// P10.1: where there is no room the record isn't laid; but a file that was begun for it is the one that is written.
func TestNoRoom(t *testing.T) {
	f := mustFS(t, 40)
	l := mustNew(t, f, 1, 20)
	want(t, "Append", l.Append([]byte(text(34)), true), api.ErrSpace)
	if f.Used() != 0 || l.Number() != 1 {
		t.Error(f.Used(), l.Number())
	}
	mustAppend(t, l, text(13))
	for range 2 {
		want(t, "Append", l.Append([]byte(text(14)), true), api.ErrSpace)
		if f.Used() != 20 || l.Number() != 2 {
			t.Error(f.Used(), l.Number())
		}
		wantNumbers(t, f, 1, 2)
	}
	mustAppend(t, l, text(12))
	want(t, "Append", l.Append(nil, true), api.ErrSpace)
	wantReplay(t, f, 0, text(13), text(12))
	if n, e := Drop(f, 2); n != 1 || e != api.OK {
		t.Error(n, e)
	}
	want(t, "Append", l.Append(nil, true), api.OK)
	f.Crash(nil)
	wantReplay(t, f, 0, text(12), "")
}

// P10.1: whether a record lasts hangs on sync alone, and on Sync behind it.
func TestSync(t *testing.T) {
	f := mustFS(t, 1000)
	l := mustNew(t, f, 1, 1000)
	want(t, "Append", l.Append([]byte("a"), false), api.OK)
	want(t, "Append", l.Append([]byte("b"), true), api.OK)
	want(t, "Append", l.Append([]byte("c"), false), api.OK)
	f.Crash(nil)
	wantReplay(t, f, 0, "a", "b")
	mustAppend(t, l, "d", "e")
	f.Arm(1)
	want(t, "Sync", l.Sync(), api.OK)
	want(t, "Sync", l.Sync(), api.ErrDown)
	f.Crash(nil)
	wantReplay(t, f, 0, "a", "b", "d", "e")
	want(t, "Sync", l.Sync(), api.OK)
	f.Remove(named(1))
	want(t, "Sync", l.Sync(), api.ErrMiss)
	want(t, "Append", l.Append(nil, false), api.ErrMiss)
	want(t, "Create", f.Create(named(1)), api.OK)
	mustAppend(t, l, "f")
	wantReplay(t, f, 0, "f")
}

// P10.1: Sync is of the file that is written, not of those ahead or beside.
func TestSyncIsOfItsFile(t *testing.T) {
	f := mustFS(t, 1000)
	one := mustNew(t, f, 1, 1000)
	mustAppend(t, one, "a")
	two := mustNew(t, f, 2, 1000)
	mustAppend(t, two, "b")
	want(t, "Sync", two.Sync(), api.OK)
	f.Crash(nil)
	wantReplay(t, f, 0, "b")
}

// scenes are calls behind what comes ahead of them, each with the count of changes that it makes.
func scenes() map[string]struct {
	changes     int
	ahead, call func(p *pair)
} {
	d := drawn(9)
	three := func(p *pair) {
		for number := range 3 {
			p.begin(2*number+1, 100)
			p.append(d.rec(150), number == 1)
		}
	}
	full := func(p *pair) {
		p.begin(1, 8)
		p.append([]byte("first"), false)
	}
	begun := func(p *pair) {
		p.begin(1, 100)
		p.append([]byte("first"), false)
	}
	return map[string]struct {
		changes     int
		ahead, call func(p *pair)
	}{
		"New":                      {2, func(p *pair) {}, func(p *pair) { p.begin(1, 100) }},
		"New behind others":        {2, three, func(p *pair) { p.begin(6, 100) }},
		"New of one that is there": {0, three, func(p *pair) { p.begin(3, 100) }},
		"Append":                   {1, begun, func(p *pair) { p.append([]byte("second"), false) }},
		"Append, synced":           {2, begun, func(p *pair) { p.append([]byte("second"), true) }},
		"Append to the next":       {4, full, func(p *pair) { p.append([]byte("second"), false) }},
		"Append to the next, too":  {5, full, func(p *pair) { p.append([]byte("second"), true) }},
		"Sync":                     {1, begun, func(p *pair) { p.sync() }},
		"Numbers":                  {0, three, func(p *pair) { p.numbers() }},
		"Replay":                   {0, three, func(p *pair) { p.replay(1) }},
		"Drop none":                {0, three, func(p *pair) { p.drop(1) }},
		"Drop one":                 {2, three, func(p *pair) { p.drop(3) }},
		"Drop two":                 {3, three, func(p *pair) { p.drop(5) }},
		"Drop all":                 {4, three, func(p *pair) { p.drop(6) }},
	}
}

// P10.1: each call's steps are done in their order: the power goes off ahead of each of them, and each crash leaves what it leaves of the model's.
func TestSteps(t *testing.T) {
	for what, scene := range scenes() {
		for armed := -1; armed <= scene.changes+1; armed++ {
			for names := range 5 {
				for _, bytes := range []int{0, 2, 5, 12, 14, 13 * 14, 157} {
					p := newPair(t, 10000)
					scene.ahead(p)
					p.arm(armed)
					scene.call(p)
					if p.f.Off() != (armed >= 0 && armed < scene.changes) {
						t.Fatal(what, armed, p.said)
					}
					p.crash(names, bytes, bytes/2, bytes)
					p.replay(0)
				}
			}
		}
		p := newPair(t, 10000)
		scene.ahead(p)
		p.arm(scene.changes + 7)
		scene.call(p)
		if n := changesLeft(p.f); n != 7 {
			t.Error(what, n)
		}
	}
}

// noLogs are names that are near to those of logs.
var noLogs = []string{
	"000000.log", "00001.log", "0000001.log", "1.log", "1000000.log", "1000001.log", "-00001.log", "--0001.log", "-1.log", "00-001.log", "00000a.log", "a00001.log", "0x0001.log", "1e0001.log",
	".log", "log", "000001", "000001.", "000001.lo", "000001.logs", "000001log", "000001-log", "000001..log", "000001.log.", ".000001.log", "000001.log.log", "000001.sst", "000001.lo9",
	"manifest-000001", "current", "tmp", "99999999999999999999.log", "00000000000000000001.log", "18446744073709551617.log", "000002.gol", "log.000001",
}

// P10.1: the numbers of all logs' names, rising, and of no others; Replay and Drop leave the others alone.
func TestNumbers(t *testing.T) {
	f := mustFS(t, 1000)
	wantNumbers(t, f)
	for _, name := range noLogs {
		want(t, "Create "+name, f.Create(name), api.OK)
		b, _ := frame.Frame(0, []byte("none"))
		want(t, "Append "+name, f.Append(name, b), api.OK)
	}
	wantNumbers(t, f)
	wantReplay(t, f, math.MinInt)
	if n, e := Drop(f, math.MaxInt); n != 0 || e != api.OK {
		t.Error(n, e)
	}
	all := []int{1, 2, 9, 10, 11, 99, 100, 909, 1000, 99999, 100000, 123456, 999998, 999999}
	for i := range all {
		mustAppend(t, mustNew(t, f, all[(i*5+3)%len(all)], 100), fmt.Sprint(all[(i*5+3)%len(all)]))
	}
	wantNumbers(t, f, all...)
	wantReplay(t, f, 11, "11", "99", "100", "909", "1000", "99999", "100000", "123456", "999998", "999999")
	if n, e := Drop(f, 999999); n != len(all)-1 || e != api.OK {
		t.Error(n, e)
	}
	wantNumbers(t, f, 999999)
	if names, e := f.List(); len(names) != len(noLogs)+1 || e != api.OK {
		t.Error(names, e)
	}
}

// P10.1: as many files as there may be.
func TestAllFiles(t *testing.T) {
	f := mustFS(t, 100000)
	l := mustNew(t, f, 600, 1)
	var recs []string
	for i := range 400 {
		recs = append(recs, fmt.Sprint("record ", i))
	}
	mustAppend(t, l, recs...)
	want(t, "Append", l.Append([]byte("more"), true), api.ErrBig)
	wantReplay(t, f, 0, recs...)
	wantReplay(t, f, 800, recs[200:]...)
	if n, e := Drop(f, 950); n != 350 || e != api.OK {
		t.Error(n, e)
	}
	want(t, "Append", l.Append([]byte("more"), true), api.OK)
	wantReplay(t, f, 0, append(recs[350:], "more")...)
}

// P10.1: records of files from a number on; what ends a file's records ends those of no other file.
func TestReplay(t *testing.T) {
	f := mustFS(t, 10000)
	wantReplay(t, f, 0)
	mustAppend(t, mustNew(t, f, 2, 1000), "a", "", text(500))
	mustNew(t, f, 4, 1000)
	mustAppend(t, mustNew(t, f, 5, 1000), "b")
	mustAppend(t, mustNew(t, f, 7, 1000), "c", "a")
	all := []string{"a", "", text(500), "b", "c", "a"}
	for _, spoilt := range []string{"", "\x00", "what is no record"} {
		for _, n := range []int{2, 4, 5, 7} {
			want(t, "Append", f.Append(named(n), []byte(spoilt)), api.OK)
		}
		for from, wanted := range map[int][]string{
			math.MinInt: all, -1: all, 0: all, 1: all, 2: all, 3: all[3:], 4: all[3:], 5: all[3:], 6: all[4:], 7: all[4:], 8: nil, 999999: nil, math.MaxInt: nil,
		} {
			wantReplay(t, f, from, wanted...)
		}
	}
	mustAppend(t, mustNew(t, f, 999999, 1000), "last")
	wantReplay(t, f, 8, "last")
	wantReplay(t, f, 999999, "last")
	wantReplay(t, f, 1000000)
}

// P10.1: files below a number, rising; the names last then.
func TestDrop(t *testing.T) {
	for _, x := range []struct {
		below int
		left  []int
	}{
		{math.MinInt, []int{3, 4, 9}}, {-1, []int{3, 4, 9}}, {0, []int{3, 4, 9}}, {3, []int{3, 4, 9}}, {4, []int{4, 9}}, {5, []int{9}}, {9, []int{9}}, {10, nil}, {1000000, nil}, {math.MaxInt, nil},
	} {
		f := mustFS(t, 1000)
		for _, n := range []int{9, 3, 4} {
			mustNew(t, f, n, 10)
		}
		gone := 3 - len(x.left)
		f.Arm(10)
		if n, e := Drop(f, x.below); n != gone || e != api.OK {
			t.Error(x, n, e)
		}
		wanted := 10
		if gone > 0 {
			wanted -= gone + 1
		}
		if left := changesLeft(f); left != wanted {
			t.Error(x, left, "changes left")
		}
		f.Crash(nil)
		wantNumbers(t, f, x.left...)
		if n, e := Drop(f, x.below); n != 0 || e != api.OK {
			t.Error(x, n, e)
		}
	}
}

// P10.1: a Drop that is cut off answers none, and has taken the first files alone.
func TestDropCutOff(t *testing.T) {
	for armed := range 4 {
		for pick := range 5 {
			f := mustFS(t, 1000)
			for _, n := range []int{1, 2, 3, 4} {
				mustNew(t, f, n, 10)
			}
			f.Arm(armed)
			if n, e := Drop(f, 4); n != 0 || e != api.ErrDown {
				t.Error(armed, pick, n, e)
			}
			f.Crash([]int{pick})
			wantNumbers(t, f, []int{1, 2, 3, 4}[pick%(armed+1):]...)
		}
	}
}

// P10.1: a log whose file was dropped has none.
func TestDropOfTheWritten(t *testing.T) {
	f := mustFS(t, 1000)
	l := mustNew(t, f, 3, 1)
	mustAppend(t, l, "a", "b")
	if n, e := Drop(f, 5); n != 2 || e != api.OK {
		t.Error(n, e)
	}
	want(t, "Append", l.Append([]byte("c"), true), api.ErrMiss)
	want(t, "Sync", l.Sync(), api.ErrMiss)
	if l.Number() != 4 {
		t.Error(l.Number())
	}
	wantNumbers(t, f)
}

// P10.1: with the power off all calls that reach files say so, and answer nothing else.
func TestOff(t *testing.T) {
	f := mustFS(t, 1000)
	l := mustNew(t, f, 1, 1)
	mustAppend(t, l, "a")
	f.Arm(0)
	f.SyncDir()
	for _, sync := range []bool{false, true} {
		want(t, "Append", l.Append([]byte("x"), sync), api.ErrDown)
	}
	want(t, "Sync", l.Sync(), api.ErrDown)
	for _, n := range []int{math.MinInt, 0, 1, 2, math.MaxInt} {
		numbers, e := Numbers(f)
		recs, e2 := Replay(f, n)
		count, e3 := Drop(f, n)
		if len(numbers) != 0 || len(recs) != 0 || count != 0 || e != api.ErrDown || e2 != api.ErrDown || e3 != api.ErrDown {
			t.Error(n, numbers, e, recs, e2, count, e3)
		}
	}
	if l.Number() != 1 || Name(1) != "000001.log" {
		t.Error(l.Number())
	}
}

// P10.1, P1: nil logs, nil files, and a log that New didn't make; no call panics.
func TestNil(t *testing.T) {
	for _, l := range []*Log{nil, {}} {
		for _, rec := range [][]byte{nil, []byte("x"), make([]byte, 300000)} {
			want(t, "Append", l.Append(rec, false), api.ErrArg)
			want(t, "Append", l.Append(rec, true), api.ErrArg)
		}
		want(t, "Sync", l.Sync(), api.ErrArg)
		if l.Number() != 0 {
			t.Error(l.Number())
		}
	}
	for _, n := range append(badNumbers, 1, 2, 999999) {
		numbers, e := Numbers(nil)
		recs, e2 := Replay(nil, n)
		count, e3 := Drop(nil, n)
		if len(numbers) != 0 || len(recs) != 0 || count != 0 || e != api.ErrArg || e2 != api.ErrArg || e3 != api.ErrArg {
			t.Error(n, numbers, e, recs, e2, count, e3)
		}
	}
}

// kept is a record, and the file that it was laid in.
type kept struct {
	number int
	rec    string
}

// book is what a log's user knows: which files were begun and which records were laid, and how many of these must last.
type book struct {
	files   []int
	recs    []kept
	lasting int
	asked   int // what a Drop was asked for, that may have been cut off
}

// begun writes down that a file is there for good.
func (b *book) begun(number int) {
	if !slices.Contains(b.files, number) {
		b.files = append(b.files, number)
	}
}

func (b *book) open(f *fs.FS, number, limit int) (*Log, api.Errno) {
	l, e := New(f, number, limit)
	if e == api.OK {
		b.begun(number)
	}
	return l, e
}

// append lays a record; where the power goes off it may be there all the same.
func (b *book) append(l *Log, rec string, sync bool) api.Errno {
	e := l.Append([]byte(rec), sync)
	b.begun(l.Number())
	b.recs = append(b.recs, kept{l.Number(), rec})
	if e == api.OK && sync {
		b.lasting = len(b.recs)
	}
	return e
}

func (b *book) sync(l *Log) api.Errno {
	e := l.Sync()
	if e == api.OK {
		b.lasting = len(b.recs)
	}
	return e
}

func (b *book) drop(f *fs.FS, below int) api.Errno {
	b.asked = below
	_, e := Drop(f, below)
	if e == api.OK {
		b.forget(below)
	}
	return e
}

// forget takes out all that is in files below a number.
func (b *book) forget(below int) {
	b.files = slices.DeleteFunc(b.files, func(n int) bool { return n < below })
	ahead := len(b.recs)
	b.recs = slices.DeleteFunc(b.recs, func(k kept) bool { return k.number < below })
	b.lasting = max(0, b.lasting-(ahead-len(b.recs)))
}

// mayBe: may a crash leave these files? Those that were begun; less the first ones, where these may be dropped; and maybe one that was being begun.
func (b *book) mayBe(numbers []int) bool {
	if len(numbers) > 0 && len(b.files) > 0 && numbers[0] > b.files[0] {
		if !slices.Contains(b.files, numbers[0]) || slices.ContainsFunc(b.files, func(n int) bool { return n < numbers[0] && n >= b.asked }) {
			return false
		}
		b.forget(numbers[0])
	}
	if count := len(b.files); len(numbers) == count+1 && (count == 0 || numbers[count] > b.files[count-1]) {
		numbers = numbers[:count]
	}
	return slices.Equal(numbers, b.files)
}

// crashed holds what a crash left against the book, which goes on with what there is; it answers the greatest number.
func (b *book) crashed(t *testing.T, f *fs.FS, what string) int {
	t.Helper()
	numbers, e := Numbers(f)
	want(t, "Numbers", e, api.OK)
	if !b.mayBe(numbers) {
		t.Fatal(what, "files", numbers, "of", b.files)
	}
	recs, e := Replay(f, 0)
	want(t, "Replay", e, api.OK)
	if len(recs) < b.lasting || len(recs) > len(b.recs) {
		t.Fatal(what, len(recs), "records of", len(b.recs), "of which must last", b.lasting)
	}
	for i, rec := range recs {
		if rec != b.recs[i].rec {
			t.Fatalf("%s: record %d is %.50q, not %.50q", what, i, rec, b.recs[i].rec)
		}
	}
	b.files, b.recs, b.lasting, b.asked = numbers, b.recs[:len(recs)], len(recs), 0
	return slices.Max(append(numbers, 0))
}

// script is a row of calls, with syncs here and there, that are refused from some change on.
func script(f *fs.FS, b *book, from int) {
	l, e := b.open(f, from, 150)
	if e != api.OK {
		return
	}
	for i, size := range []int{3, 150, 0, 60, 128, 7, 300, 121, 1, 90, 40, 140, 10} {
		if b.append(l, fmt.Sprint(from, i, text(size)), i%4 == 1) != api.OK {
			return
		}
		if i%5 == 2 && b.sync(l) != api.OK {
			return
		}
		if i == 8 && b.drop(f, l.Number()-1) != api.OK {
			return
		}
	}
}

// P10.2, P10.3: the power goes off ahead of each change of a log, and of one that is begun anew behind the crash, and crashes leave this or that.
func TestEachChange(t *testing.T) {
	const enough = 1000
	whole := mustFS(t, 100000)
	whole.Arm(enough)
	script(whole, &book{}, 1)
	changes := enough - changesLeft(whole)
	if changes < 35 {
		t.Fatal("the script has only", changes, "changes")
	}
	for armed := range changes + 1 {
		for names := range 3 {
			for _, bytes := range []int{0, 1, 7, 9, 40, 41, 127, 128, 129, 300, 311, 1 << 40, -1, -2} {
				what := fmt.Sprint("armed with ", armed, ", picks ", names, bytes)
				f := mustFS(t, 100000)
				b := &book{}
				f.Arm(armed)
				script(f, b, 1)
				if f.Off() != (armed < changes) {
					t.Fatal(what, "the script has another count of changes")
				}
				f.Crash([]int{names, bytes, bytes})
				greatest := b.crashed(t, f, what)
				f.Arm(armed * 7 % (changes + 1))
				script(f, b, greatest+1)
				f.Crash([]int{names, bytes, bytes / 2})
				b.crashed(t, f, what+", anew")
				f.Crash([]int{1, 2, 3})
				b.crashed(t, f, what+", again")
			}
		}
	}
}

// P10.2, P10.3: drawn calls, through many crashes.
func TestManyCrashes(t *testing.T) {
	d := drawn(4)
	for round := range 300 {
		f := mustFS(t, 1<<20)
		b := &book{}
		greatest := d.below(3)
		for turn := range 8 {
			f.Arm(d.below(60) - 10)
			l, e := b.open(f, greatest+1+d.below(3), 1+d.below(500))
			for range d.below(40) {
				if e != api.OK {
					break
				}
				switch d.below(8) {
				case 0:
					e = b.sync(l)
				case 1:
					if d.below(3) == 0 {
						e = b.drop(f, l.Number()-d.below(4))
					}
				default:
					e = b.append(l, string(d.rec(d.below([]int{4, 200, 800}[d.below(3)]))), d.below(4) == 0)
				}
			}
			if e != api.OK && e != api.ErrDown {
				t.Fatal(round, turn, e)
			}
			f.Crash(d.picks())
			greatest = b.crashed(t, f, fmt.Sprint(round, turn))
		}
	}
}

// P10.3: a log that is begun anew goes on behind the others, be their tails whole, cut, or spoilt.
func TestBegunAnew(t *testing.T) {
	for pick := range 80 {
		f := mustFS(t, 1000)
		one := mustNew(t, f, 3, 1000)
		want(t, "Append", one.Append([]byte("a"), true), api.OK)
		mustAppend(t, one, text(31))
		f.Crash([]int{0, pick})
		wanted := []string{"a"}
		// All its 38 bytes, and the last one as it was; by 77 that one is spoilt.
		if pick == 38 {
			wanted = append(wanted, text(31))
		}
		two := mustNew(t, f, 8, 1000)
		want(t, "Append", two.Append([]byte("b"), true), api.OK)
		f.Crash(nil)
		wantReplay(t, f, 0, append(wanted, "b")...)
	}
}

// P10.4: what is handed in is neither kept nor changed, its spare room neither.
func TestArgumentsStayTheirs(t *testing.T) {
	f := mustFS(t, 10000)
	l := mustNew(t, f, 1, 300)
	whole := []byte(text(400))
	for _, size := range []int{0, 5, 130, 260, 3} {
		for _, sync := range []bool{false, true} {
			want(t, "Append", l.Append(whole[:size], sync), api.OK)
		}
	}
	if string(whole) != text(400) {
		t.Errorf("%q", whole)
	}
	clear(whole)
	want(t, "Append", l.Append(whole[:1], true), api.OK)
	wantReplay(t, f, 0, "", "", text(5), text(5), text(130), text(130), text(260), text(260), text(3), text(3), "\x00")
}

// P10.4: an answer that is written over changes no other, nor the files.
func TestAnswersAreNewMemory(t *testing.T) {
	f := mustFS(t, 10000)
	l := mustNew(t, f, 1, 11)
	mustAppend(t, l, "abc", "defg", "hi")
	numbers, _ := Numbers(f)
	others, _ := Numbers(f)
	recs, _ := Replay(f, 0)
	again, _ := Replay(f, 0)
	clear(numbers[:cap(numbers)])
	clear(recs[:cap(recs)])
	if !slices.Equal(others, []int{1, 2}) || !slices.Equal(again, []string{"abc", "defg", "hi"}) {
		t.Error(others, again)
	}
	wantReplay(t, f, 0, "abc", "defg", "hi")
	wantNumbers(t, f, 1, 2)
	mustAppend(t, l, "more", "and more")
	Drop(f, 3)
	if !slices.Equal(others, []int{1, 2}) || !slices.Equal(again, []string{"abc", "defg", "hi"}) {
		t.Error(others, again)
	}
}

// P10.4: the same record twice is two texts.
func TestTextsAreNew(t *testing.T) {
	f := mustFS(t, 10000)
	mustAppend(t, mustNew(t, f, 1, 20), "one text", "one text", "one text")
	taken := map[*byte]bool{}
	for range 2 {
		recs, _ := Replay(f, 0)
		for _, rec := range recs {
			if at := unsafe.StringData(rec); taken[at] {
				t.Error("memory that another text has")
			} else {
				taken[at] = true
			}
		}
	}
	if len(taken) != 6 {
		t.Error(len(taken))
	}
}

// P10.1: two directories' logs know nothing of each other.
func TestApart(t *testing.T) {
	f, g := mustFS(t, 1000), mustFS(t, 1000)
	one, two := mustNew(t, f, 1, 10), mustNew(t, g, 1, 10)
	mustAppend(t, one, "a", "b", "c", "d")
	mustAppend(t, two, "x")
	if one.Number() != 2 || two.Number() != 1 {
		t.Error(one.Number(), two.Number())
	}
	wantReplay(t, f, 0, "a", "b", "c", "d")
	wantReplay(t, g, 0, "x")
}
