package fs

import (
	"bytes"
	"fmt"
	"math"
	"slices"
	"strings"
	"testing"

	"assart/api"
)

// mustNew makes a directory that the test needs.
func mustNew(t *testing.T, room int) *FS {
	t.Helper()
	f, e := New(room)
	if e != api.OK || f == nil {
		t.Fatalf("New(%d): %d", room, e)
	}
	return f
}

// want: a call must have answered so.
func want(t *testing.T, what string, got, wanted api.Errno) {
	t.Helper()
	if got != wanted {
		t.Fatalf("%s: %d, want %d", what, got, wanted)
	}
}

// mustMake creates a file with these bytes, which don't last.
func mustMake(t *testing.T, f *FS, name, data string) {
	t.Helper()
	want(t, "Create "+name, f.Create(name), api.OK)
	want(t, "Append "+name, f.Append(name, []byte(data)), api.OK)
}

// mustLast creates a file with these bytes, which last, and its name, too.
func mustLast(t *testing.T, f *FS, name, data string) {
	t.Helper()
	mustMake(t, f, name, data)
	want(t, "Sync "+name, f.Sync(name), api.OK)
	want(t, "SyncDir", f.SyncDir(), api.OK)
}

// tell is all that a directory tells of its files while the power is on: each name with its bytes.
func tell(t *testing.T, f *FS) string {
	t.Helper()
	names, e := f.List()
	want(t, "List", e, api.OK)
	var l []string
	used := 0
	for _, name := range names {
		size, e := f.Size(name)
		want(t, "Size "+name, e, api.OK)
		b, e := f.Read(name, 0, math.MaxInt)
		want(t, "Read "+name, e, api.OK)
		if len(b) != size {
			t.Fatalf("%s has %d bytes, Size says %d", name, len(b), size)
		}
		used += size
		l = append(l, name+"="+string(b))
	}
	if f.Used() != used {
		t.Fatalf("Used = %d, want %d", f.Used(), used)
	}
	return strings.Join(l, " ")
}

func wantTell(t *testing.T, f *FS, wanted string) {
	t.Helper()
	if got := tell(t, f); got != wanted {
		t.Fatalf("there is %q, want %q", got, wanted)
	}
}

// wantCrash: behind a crash with these picks there is that; with the power on, not armed, and with nothing left for another crash to take.
func wantCrash(t *testing.T, f *FS, wanted string, picks ...int) {
	t.Helper()
	f.Crash(picks)
	if f.Off() {
		t.Fatal("off behind a crash")
	}
	wantTell(t, f, wanted)
	f.Crash([]int{1, 1, 1})
	wantTell(t, f, wanted)
}

// P7.1: the chapter's example.
func TestExample(t *testing.T) {
	for _, c := range []struct {
		sync   bool
		picks  []int
		wanted string
	}{
		{false, []int{1}, "a="},
		{false, []int{0}, ""},
		{true, []int{1}, "a=xyz"},
		{false, []int{1, 3}, "a=xy\x2f"},
	} {
		f := mustNew(t, 100)
		mustMake(t, f, "a", "xyz")
		if c.sync {
			want(t, "Sync", f.Sync("a"), api.OK)
		}
		wantCrash(t, f, c.wanted, c.picks...)
	}
}

// P7.1: the document's example 5: without SyncDir the name may be gone, or there with all bytes.
func TestSyncedWithoutItsName(t *testing.T) {
	for pick, wanted := range []string{"", "a=xyz", "", "a=xyz"} {
		f := mustNew(t, 100)
		mustMake(t, f, "a", "xyz")
		f.Sync("a")
		wantCrash(t, f, wanted, pick, 1, 1)
	}
}

// P7.1: how much room there may be; a new one is empty, on and not armed.
func TestNew(t *testing.T) {
	for _, room := range []int{0, 1, 1<<30 - 1, 1 << 30} {
		f := mustNew(t, room)
		wantTell(t, f, "")
		if f.Off() {
			t.Error("off")
		}
		for range 10 {
			want(t, "SyncDir", f.SyncDir(), api.OK)
		}
	}
	for _, room := range []int{-1, 1<<30 + 1, 1 << 32, math.MinInt, math.MaxInt} {
		if f, e := New(room); f != nil || e != api.ErrArg {
			t.Error(room, f, e)
		}
	}
}

// badNames are near to names, and none.
var badNames = []string{
	"", "A", "Z", "a b", " a", "a ", "a/b", "/", "a_b", "a\x00", "\x00", "a\n", "é", "aé", "ａ", "a\xff", "\x80", "a+b", "a,b", "a:", "a`", "a{", "a@",
	"abcdefghijklmnopqrstuvwxy", "0123456789.0123456789.0123456789", strings.Repeat("a", 280), strings.Repeat("a", 257),
}

// goodNames are names, some of them as long as may be.
var goodNames = []string{"a", "z", "0", "9", ".", "-", "..", "a.b-0", "-a", "000001.log", "manifest-000001", "abcdefghijklmnopqrstuvwx", "0123456789.-0123456789.-", strings.Repeat("-", 24)}

// P7.1: each byte by itself, in each place; how many there may be.
func TestIsName(t *testing.T) {
	const allowed = "abcdefghijklmnopqrstuvwxyz0123456789.-"
	for c := range 256 {
		one := string([]byte{byte(c)})
		ok := strings.Contains(allowed, one)
		for _, s := range []string{one, one + "a", "a" + one, "a" + one + "a", strings.Repeat("a", 23) + one} {
			if IsName(s) != ok {
				t.Errorf("IsName(%q) = %v", s, !ok)
			}
		}
	}
	for n := range 60 {
		if s := strings.Repeat("x", n); IsName(s) != (n >= 1 && n <= 24) {
			t.Errorf("IsName of %d bytes: %v", n, IsName(s))
		}
	}
	for _, s := range goodNames {
		if !IsName(s) {
			t.Errorf("IsName(%q) = false", s)
		}
	}
	for _, s := range badNames {
		if IsName(s) {
			t.Errorf("IsName(%q) = true", s)
		}
	}
}

// named are the calls that one name is handed to.
func named(f *FS) map[string]func(name string) api.Errno {
	return map[string]func(name string) api.Errno{
		"Create":    f.Create,
		"Append":    func(name string) api.Errno { return f.Append(name, []byte("b")) },
		"Append 0":  func(name string) api.Errno { return f.Append(name, nil) },
		"Append++":  func(name string) api.Errno { return f.Append(name, make([]byte, api.MaxFile+1)) },
		"Read":      func(name string) api.Errno { b, e := f.Read(name, 0, 1); return noBytes(b, e) },
		"Read -1":   func(name string) api.Errno { b, e := f.Read(name, -1, -1); return noBytes(b, e) },
		"Size":      func(name string) api.Errno { n, e := f.Size(name); return noNumber(n, e) },
		"Sync":      f.Sync,
		"Rename":    func(name string) api.Errno { return f.Rename(name, "there") },
		"Rename to": func(name string) api.Errno { return f.Rename(name, "free") },
		"Rename eq": func(name string) api.Errno { return f.Rename(name, name) },
		"Remove":    f.Remove,
	}
}

// noBytes, noNumber: beside an error nothing else is answered.
func noBytes(b []byte, e api.Errno) api.Errno {
	if e != api.OK && len(b) != 0 {
		return -1
	}
	return e
}

func noNumber(n int, e api.Errno) api.Errno {
	if e != api.OK && n != 0 {
		return -1
	}
	return e
}

// P7.1: what is no name, and what isn't there, is told ahead of all else, the power among it, and changes nothing.
func TestNamesRefused(t *testing.T) {
	for _, off := range []bool{false, true} {
		f := mustNew(t, 10)
		mustLast(t, f, "there", "xyz")
		if off {
			f.Arm(0)
			want(t, "Sync", f.Sync("there"), api.ErrDown)
		}
		for what, call := range named(f) {
			for _, name := range badNames {
				want(t, fmt.Sprintf("%s %q", what, name), call(name), api.ErrName)
			}
			if what != "Create" {
				want(t, what+" of none", call("none"), api.ErrMiss)
			}
		}
		for _, name := range badNames {
			want(t, "Rename to none", f.Rename("there", name), api.ErrName)
			want(t, "Rename of what isn't there, to none", f.Rename("none", name), api.ErrName)
		}
		want(t, "Create", f.Create("there"), api.ErrThere)
		wantCrash(t, f, "there=xyz", 1)
	}
}

// P7.1: a new file has no bytes, and one that is there isn't made again.
func TestCreate(t *testing.T) {
	f := mustNew(t, 100)
	for i, name := range goodNames {
		want(t, "Create", f.Create(name), api.OK)
		want(t, "Create", f.Create(name), api.ErrThere)
		if n, e := f.Size(name); n != 0 || e != api.OK {
			t.Error(n, e)
		}
		if l, e := f.List(); len(l) != i+1 || e != api.OK || !slices.Contains(l, name) {
			t.Error(l, e)
		}
	}
	f.Append("a", []byte("xyz"))
	want(t, "Create", f.Create("a"), api.ErrThere)
	if b, _ := f.Read("a", 0, 9); string(b) != "xyz" {
		t.Errorf("%q", b)
	}
	want(t, "Remove", f.Remove("a"), api.OK)
	want(t, "Create", f.Create("a"), api.OK)
	if n, e := f.Size("a"); n != 0 || e != api.OK {
		t.Error(n, e)
	}
}

// P7.1: as many names as may be, and not one more; names that only last don't count.
func TestMaxFiles(t *testing.T) {
	f := mustNew(t, 100)
	for i := range 400 {
		want(t, "Create", f.Create(fmt.Sprint(i)), api.OK)
	}
	want(t, "SyncDir", f.SyncDir(), api.OK)
	want(t, "Create", f.Create("more"), api.ErrBig)
	want(t, "Create of none", f.Create("A"), api.ErrName)
	want(t, "Create again", f.Create("399"), api.ErrThere)
	f.Arm(0)
	want(t, "Create", f.Create("more"), api.ErrBig)
	f.Arm(-1)
	want(t, "Rename", f.Rename("0", "more"), api.OK)
	want(t, "Create", f.Create("0"), api.ErrBig)
	want(t, "Rename", f.Rename("1", "2"), api.OK)
	want(t, "Create", f.Create("0"), api.OK)
	want(t, "Create", f.Create("1"), api.ErrBig)
	want(t, "Remove", f.Remove("0"), api.OK)
	want(t, "Create", f.Create("1"), api.OK)
	want(t, "Create", f.Create("0"), api.ErrBig)
	if l, e := f.List(); len(l) != 400 || e != api.OK {
		t.Error(len(l), e)
	}
}

// P7.1: as many bytes as a file may have, and not one more, told ahead of a lack of room.
func TestMaxFile(t *testing.T) {
	f := mustNew(t, 1<<30)
	f.Create("a")
	want(t, "Append", f.Append("a", make([]byte, 1<<20+1)), api.ErrBig)
	want(t, "Append", f.Append("a", make([]byte, 1<<20-1)), api.OK)
	want(t, "Append", f.Append("a", make([]byte, 2)), api.ErrBig)
	want(t, "Append", f.Append("a", make([]byte, 1)), api.OK)
	want(t, "Append", f.Append("a", make([]byte, 1)), api.ErrBig)
	want(t, "Append", f.Append("a", nil), api.OK)
	if n, e := f.Size("a"); n != 1<<20 || e != api.OK {
		t.Error(n, e)
	}
	f.Create("b")
	want(t, "Append", f.Append("b", make([]byte, 1<<20)), api.OK)
	g := mustNew(t, 5)
	g.Create("a")
	want(t, "Append", g.Append("a", make([]byte, 1<<20+1)), api.ErrBig)
	want(t, "Append", g.Append("a", make([]byte, 1<<20)), api.ErrSpace)
}

// P7.1: the room is for the files that have a name, and a refused Append changes nothing.
func TestRoom(t *testing.T) {
	f := mustNew(t, 10)
	mustMake(t, f, "a", "1234")
	mustMake(t, f, "b", "12345")
	want(t, "Append", f.Append("a", []byte("67")), api.ErrSpace)
	want(t, "Append", f.Append("a", []byte("5")), api.OK)
	want(t, "Append", f.Append("b", []byte("6")), api.ErrSpace)
	want(t, "Append", f.Append("b", nil), api.OK)
	wantTell(t, f, "a=12345 b=12345")
	want(t, "Rename", f.Rename("a", "b"), api.OK)
	want(t, "Append", f.Append("b", []byte("678901")), api.ErrSpace)
	want(t, "Append", f.Append("b", []byte("67890")), api.OK)
	want(t, "Remove", f.Remove("b"), api.OK)
	mustMake(t, f, "c", "1234567890")
	if f.Used() != 10 {
		t.Error(f.Used())
	}
	g := mustNew(t, 0)
	mustMake(t, g, "a", "")
	want(t, "Append", g.Append("a", []byte("x")), api.ErrSpace)
}

// P7.1: a crash may bring back more than there is room for; then all files had more than room behind any Append, of no bytes, too.
func TestMoreThanRoom(t *testing.T) {
	f := mustNew(t, 10)
	mustMake(t, f, "a", "123456")
	f.Create("b")
	f.Remove("a")
	want(t, "Append", f.Append("b", []byte("abcdef")), api.OK)
	f.Crash([]int{2, 6, 6})
	wantTell(t, f, "a=123456 b=abcdef")
	want(t, "Append", f.Append("a", nil), api.ErrSpace)
	want(t, "Append", f.Append("a", []byte("x")), api.ErrSpace)
	f.Remove("b")
	want(t, "Append", f.Append("a", []byte("7890")), api.OK)
	wantTell(t, f, "a=1234567890")
}

// P7.1: bytes from a place on, as many as there are.
func TestRead(t *testing.T) {
	f := mustNew(t, 100)
	const data = "abcdefgh"
	for _, one := range []string{"x", ""} {
		mustMake(t, f, "a"+one, data[:len(data)*len(one)])
	}
	for off := range 9 {
		for _, n := range []int{0, 1, 2, 7, 8, 9, 1 << 40, math.MaxInt} {
			wanted := data[off:min(len(data), off+min(n, 100))]
			if b, e := f.Read("ax", off, n); string(b) != wanted || e != api.OK {
				t.Errorf("Read(%d, %d) = %q, %d, want %q", off, n, b, e, wanted)
			}
		}
	}
	for _, c := range [][2]int{{-1, 0}, {-1, 1}, {-1, 9}, {0, -1}, {8, -1}, {9, 0}, {9, 1}, {9, -1}, {math.MaxInt, 0}, {math.MaxInt, math.MaxInt}, {math.MinInt, 0}, {0, math.MinInt}, {math.MinInt, math.MinInt}} {
		if b, e := f.Read("ax", c[0], c[1]); len(b) != 0 || e != api.ErrArg {
			t.Error(c, b, e)
		}
	}
	if b, e := f.Read("a", 0, 5); len(b) != 0 || e != api.OK {
		t.Error(b, e)
	}
	if b, e := f.Read("a", 1, 0); len(b) != 0 || e != api.ErrArg {
		t.Error(b, e)
	}
}

// P7.1: appended bytes come behind the others, in every file by itself.
func TestAppend(t *testing.T) {
	f := mustNew(t, 100000)
	wanted := map[string]string{"a": "", "b": "", "c": ""}
	for name := range wanted {
		f.Create(name)
	}
	d := draw(7)
	for range 300 {
		name := string([]byte{byte('a' + d.below(3))})
		b := d.bytes(d.below(40))
		want(t, "Append", f.Append(name, b), api.OK)
		wanted[name] += string(b)
		wantTell(t, f, "a="+wanted["a"]+" b="+wanted["b"]+" c="+wanted["c"])
	}
}

// P7.1: a file goes with all it has to another name, and takes the place of what had that.
func TestRename(t *testing.T) {
	f := mustNew(t, 100)
	mustMake(t, f, "a", "xyz")
	want(t, "Rename", f.Rename("a", "b"), api.OK)
	wantTell(t, f, "b=xyz")
	want(t, "Rename", f.Rename("a", "b"), api.ErrMiss)
	mustMake(t, f, "a", "12345")
	want(t, "Rename", f.Rename("b", "a"), api.OK)
	wantTell(t, f, "a=xyz")
	want(t, "Append", f.Append("a", []byte("!")), api.OK)
	want(t, "Rename", f.Rename("a", "a"), api.OK)
	wantTell(t, f, "a=xyz!")
}

// P7.1: a file renamed to its own name waits for nothing, though it needs the power.
func TestRenameToItself(t *testing.T) {
	f := mustNew(t, 100)
	mustMake(t, f, "a", "")
	for range 3 {
		want(t, "Rename", f.Rename("a", "a"), api.OK)
	}
	f.Create("b")
	// Two changes wait, so 3 is 0; had those of a to itself waited, too, it were 3.
	wantCrash(t, f, "", 3)
	f.Create("a")
	f.SyncDir()
	f.Arm(1)
	want(t, "Rename", f.Rename("a", "a"), api.OK)
	want(t, "Rename", f.Rename("a", "a"), api.ErrDown)
	if !f.Off() {
		t.Error("on")
	}
	want(t, "Rename", f.Rename("b", "b"), api.ErrMiss)
	want(t, "Rename", f.Rename("B", "B"), api.ErrName)
	wantCrash(t, f, "a=", 0)
}

// P7.1: what was removed is there no longer.
func TestRemove(t *testing.T) {
	f := mustNew(t, 100)
	mustMake(t, f, "a", "xyz")
	mustMake(t, f, "b", "12")
	want(t, "Remove", f.Remove("a"), api.OK)
	want(t, "Remove", f.Remove("a"), api.ErrMiss)
	wantTell(t, f, "b=12")
}

// P7.1: names are told rising, as bytes.
func TestList(t *testing.T) {
	f := mustNew(t, 100)
	wanted := []string{"-", ".", "0", "00", "9", "a", "a-", "a.", "a.a", "a0", "aa", "b", "z"}
	for i := range wanted {
		f.Create(wanted[(i*5+3)%len(wanted)])
	}
	if l, e := f.List(); !slices.Equal(l, wanted) || e != api.OK {
		t.Error(l, e)
	}
}

// calls are all that may find the power off, each where it would be OK; the first six are changes.
func calls(f *FS) []func() api.Errno {
	return []func() api.Errno{
		func() api.Errno { return f.Create("new") },
		func() api.Errno { return f.Append("a", []byte("b")) },
		func() api.Errno { return f.Sync("a") },
		func() api.Errno { return f.Rename("a", "to") },
		func() api.Errno { return f.Remove("a") },
		f.SyncDir,
		func() api.Errno { b, e := f.Read("a", 0, 3); return noBytes(b, e) },
		func() api.Errno { n, e := f.Size("a"); return noNumber(n, e) },
		func() api.Errno {
			l, e := f.List()
			if e != api.OK && len(l) != 0 {
				return -1
			}
			return e
		},
	}
}

const changes = 6

// P7.1: armed with 0 each change puts the power off and isn't done; then all calls tell so till a crash.
func TestPowerOff(t *testing.T) {
	for i := range changes {
		f := mustNew(t, 100)
		mustLast(t, f, "a", "xyz")
		f.Append("a", []byte("w"))
		f.Arm(0)
		for _, read := range calls(f)[changes:] {
			want(t, "a call that changes nothing", read(), api.OK)
		}
		if f.Off() {
			t.Fatal("off ahead of a change")
		}
		want(t, fmt.Sprint("change ", i), calls(f)[i](), api.ErrDown)
		if !f.Off() {
			t.Fatal("on")
		}
		for k, call := range calls(f) {
			want(t, fmt.Sprint("call ", k), call(), api.ErrDown)
		}
		for _, n := range []int{5, 0, -1} {
			f.Arm(n)
			for k, call := range calls(f) {
				want(t, fmt.Sprint("call ", k), call(), api.ErrDown)
			}
			if !f.Off() || f.Used() != 4 {
				t.Fatal(n, f.Off(), f.Used())
			}
		}
		wantCrash(t, f, "a=xyz", 1)
		for range 3 {
			want(t, "SyncDir", f.SyncDir(), api.OK)
		}
	}
}

// P7.1: the count is one less with each change that is done, of whichever kind, and with nothing else.
func TestArmCounts(t *testing.T) {
	for i := range changes {
		for left := range 4 {
			f := mustNew(t, 100)
			mustLast(t, f, "a", "xyz")
			f.Arm(left + 1)
			want(t, fmt.Sprint("change ", i), calls(f)[i](), api.OK)
			f.Create("c")
			for k := range left {
				if f.Off() {
					t.Fatal("off ahead of ", left, k)
				}
				f.Read("a", 0, 1)
				f.List()
				f.Size("a")
				f.Used()
				f.Create("A")
				f.Create("c")
				f.Append("A", nil)
				f.Append("c", make([]byte, 101))
				f.Append("c", make([]byte, 1<<20+1))
				f.Remove("none")
				f.Sync("none")
				f.Rename("none", "a")
				if k+1 < left {
					want(t, "Sync", f.Sync("c"), api.OK)
				}
			}
			want(t, "Sync", f.SyncDir(), api.ErrDown)
		}
	}
}

// P7.1: armed anew counts anew; below 0 is not armed; a crash disarms.
func TestArmAnew(t *testing.T) {
	f := mustNew(t, 100)
	f.Create("a")
	f.Arm(0)
	f.Arm(2)
	want(t, "Sync", f.Sync("a"), api.OK)
	f.Arm(2)
	want(t, "Sync", f.Sync("a"), api.OK)
	want(t, "Sync", f.Sync("a"), api.OK)
	for _, n := range []int{-1, -2, math.MinInt} {
		f.Arm(0)
		f.Arm(n)
		for range 5 {
			want(t, "Sync", f.Sync("a"), api.OK)
		}
	}
	f.SyncDir()
	for _, n := range []int{0, 1} {
		f.Arm(n)
		f.Crash(nil)
		for range 5 {
			want(t, "Sync", f.Sync("a"), api.OK)
		}
	}
	f.Arm(math.MaxInt)
	for range 5 {
		want(t, "Sync", f.Sync("a"), api.OK)
	}
	if f.Off() {
		t.Error("off")
	}
}

// P7.1: with the power off, each call's own errors come ahead of it.
func TestErrorsAheadOfDown(t *testing.T) {
	f := mustNew(t, 10)
	mustLast(t, f, "a", "xyz")
	f.Arm(0)
	for _, off := range []bool{false, true} {
		if off {
			want(t, "SyncDir", f.SyncDir(), api.ErrDown)
		}
		want(t, "Create", f.Create("A"), api.ErrName)
		want(t, "Create", f.Create("a"), api.ErrThere)
		want(t, "Append", f.Append("a", make([]byte, 8)), api.ErrSpace)
		want(t, "Append", f.Append("a", make([]byte, 1<<20-2)), api.ErrBig)
		_, e := f.Read("a", 4, 0)
		want(t, "Read", e, api.ErrArg)
		_, e = f.Read("a", 0, -1)
		want(t, "Read", e, api.ErrArg)
		want(t, "Rename", f.Rename("b", "a"), api.ErrMiss)
		want(t, "Rename", f.Rename("a", ""), api.ErrName)
		want(t, "Remove", f.Remove("b"), api.ErrMiss)
		want(t, "Sync", f.Sync("b"), api.ErrMiss)
		if f.Off() != off {
			t.Fatal("off: ", !off)
		}
	}
}

// P7.1: of the changes that wait the first so many are done, by the first pick alone.
func TestCrashNames(t *testing.T) {
	shots := []string{"a=A b=B", "a=A b=B c=", "b=A c=", "a= b=A c=", "a= b=A", "a=A", "a=A b=", "b=", "a= b="}
	for _, pick := range []int{0, 1, 2, 3, 4, 5, 6, 7, 8, 13, 699, -1, -2, -7, math.MaxInt, math.MinInt} {
		f := mustNew(t, 100)
		mustLast(t, f, "a", "A")
		mustLast(t, f, "b", "B")
		f.Create("c")
		f.Rename("a", "b")
		f.Create("a")
		f.Remove("c")
		f.Rename("b", "a")
		f.Create("b")
		f.Remove("a")
		f.Create("a")
		f.Rename("none", "a")
		f.Create("A")
		f.Rename("b", "b")
		at, _ := rest(pick, len(shots))
		wantCrash(t, f, shots[at], pick)
		want(t, "Create", f.Create("d"), api.OK)
	}
}

// P7.1: behind SyncDir no change waits; the first pick is taken all the same.
func TestFirstPickIsTheNames(t *testing.T) {
	f := mustNew(t, 100)
	f.Create("a")
	f.Create("b")
	f.SyncDir()
	f.Append("a", []byte("abcd"))
	f.Append("b", []byte("efgh"))
	wantCrash(t, f, "a=ab b=efgh", 4, 2, 4)
	f.Append("b", []byte("ijkl"))
	f.Remove("a")
	wantCrash(t, f, "b=efghij", 1, 2)
	f.Append("b", []byte("kl"))
	f.Crash(nil)
	wantTell(t, f, "b=efghij")
}

// P7.1: picks go to the names that are there then, rising, whose files have bytes that don't last, and to no others.
func TestPicksGoRising(t *testing.T) {
	f := mustNew(t, 1000)
	for _, name := range []string{"e", "d", "c", "b", "a"} {
		f.Create(name)
	}
	f.SyncDir()
	f.Append("e", []byte("eeeeeeee"))
	f.Append("d", []byte("dddddddd"))
	f.Sync("d")
	f.Append("c", []byte("cccccccc"))
	f.Sync("c")
	f.Append("c", []byte("CCCCCCCC"))
	f.Append("a", []byte("aaaaaaaa"))
	f.Rename("a", "x")
	f.Create("f")
	f.Append("f", []byte("ffffffff"))
	// One change is done of two: c, e and x take the picks, f is gone.
	wantCrash(t, f, "b= c=ccccccccCC d=dddddddd e=eeee x=aaaaaa", 1, 2, 4, 6, 8)
}

// P7.1: a removed file whose name lasts comes back with its bytes, cut as the others are.
func TestRemovedComesBack(t *testing.T) {
	f := mustNew(t, 100)
	mustLast(t, f, "a", "xyz")
	f.Append("a", []byte("1234"))
	f.Remove("a")
	mustMake(t, f, "a", "other")
	wantCrash(t, f, "a=xyz12", 0, 2)
	f.Remove("a")
	mustMake(t, f, "a", "other")
	f.Sync("a")
	wantCrash(t, f, "", 1)
}

// P7.1: SyncDir makes the names last, not the bytes.
func TestSyncDirKeepsNoBytes(t *testing.T) {
	f := mustNew(t, 100)
	mustMake(t, f, "a", "xyz")
	f.SyncDir()
	wantCrash(t, f, "a=")
}

// P7.1: of two crashes the second one finds nothing to take, though what the first left is otherwise than it was.
func TestCrashLasts(t *testing.T) {
	f := mustNew(t, 100)
	mustMake(t, f, "a", "xyz")
	f.Crash([]int{1, 3})
	f.Append("a", []byte("uvw"))
	wantCrash(t, f, "a=xy\x2f", 1, 0)
	f.Append("a", []byte("uv"))
	wantCrash(t, f, "a=xy\x2fu\x23", 7, -5)
}

// P7.1, P1: a nil directory.
func TestNil(t *testing.T) {
	var f *FS
	for what, call := range named(f) {
		for _, name := range []string{"a", "", "A"} {
			want(t, what, call(name), api.ErrArg)
		}
	}
	for i, call := range calls(f) {
		want(t, fmt.Sprint(i), call(), api.ErrArg)
	}
	want(t, "Rename", f.Rename("a", "A"), api.ErrArg)
	f.Arm(0)
	f.Arm(-1)
	f.Crash(nil)
	f.Crash([]int{1, 2, 3})
	if f.Used() != 0 || f.Off() {
		t.Error(f.Used(), f.Off())
	}
}

// P1: one that New didn't make has no room; nothing panics on it.
func TestPlain(t *testing.T) {
	f := &FS{}
	wantCrash(t, f, "", 1, 1)
	want(t, "SyncDir", f.SyncDir(), api.OK)
	want(t, "Remove", f.Remove("a"), api.ErrMiss)
	want(t, "Create", f.Create("a"), api.OK)
	want(t, "Append", f.Append("a", []byte("x")), api.ErrSpace)
	wantCrash(t, f, "a=", 1)
}

// P7.2: a file and a name that were synced are there behind every crash, whatever is done beside and behind, and wherever the power goes.
func TestSyncedStays(t *testing.T) {
	d := draw(2)
	others := []string{"a", "b", "k", "z"}
	for range 3000 {
		f := mustNew(t, 500)
		for range d.below(6) {
			f.act(&d, others)
		}
		f.Create("kept")
		f.Append("kept", d.bytes(d.below(9)))
		if d.below(2) == 0 {
			f.SyncDir()
			f.Append("kept", d.bytes(d.below(9)))
			f.Sync("kept")
		} else {
			f.Sync("kept")
			f.SyncDir()
		}
		lasts, e := f.Read("kept", 0, 99)
		want(t, "Read", e, api.OK)
		for range 3 {
			f.Arm(d.below(12) - 1)
			for range d.below(12) {
				if d.below(3) == 0 {
					f.Append("kept", d.bytes(d.below(5)))
				} else {
					f.act(&d, others)
				}
			}
			f.Crash(d.picks())
			b, e := f.Read("kept", 0, 99)
			if e != api.OK || !bytes.HasPrefix(b, lasts) {
				t.Fatalf("%q, %d, want %q first", b, e, lasts)
			}
		}
	}
}

// P7.3: behind a crash a file has what it had, cut anywhere behind what lasts, but for the last byte, which only may be another where it didn't last.
func TestCutBytes(t *testing.T) {
	const data = "abcdefghijkl"
	for lasts := range len(data) + 1 {
		for total := lasts; total <= len(data); total++ {
			seen := map[int]bool{}
			for pick := -30; pick < 30; pick++ {
				f := mustNew(t, 100)
				mustLast(t, f, "a", data[:lasts])
				want(t, "Append", f.Append("a", []byte(data[lasts:total])), api.OK)
				f.Crash([]int{0, pick})
				b, e := f.Read("a", 0, 99)
				n := len(b)
				if e != api.OK || n < lasts || n > total {
					t.Fatal(lasts, total, pick, string(b), e)
				}
				wanted := []byte(data[:n])
				if n > lasts && pick%2 != 0 {
					wanted[n-1] ^= 85
				}
				if !bytes.Equal(b, wanted) {
					t.Fatalf("%d, %d, %d: %q, want %q", lasts, total, pick, b, wanted)
				}
				seen[n] = true
			}
			if len(seen) != total-lasts+1 {
				t.Error("not cut anywhere", lasts, total, seen)
			}
		}
	}
}

// P7.4: a rename and SyncDir, cut off at any change, by any picks.
func TestRenameCutOff(t *testing.T) {
	for _, over := range []bool{false, true} {
		told := map[string]int{}
		for armed := -1; armed < 4; armed++ {
			for pick := -3; pick < 6; pick++ {
				f := mustNew(t, 100)
				if over {
					mustLast(t, f, "to", "older")
				}
				mustLast(t, f, "from", "newer")
				f.Arm(armed)
				f.Rename("from", "to")
				done := f.SyncDir() == api.OK
				f.Crash([]int{pick, 1, 1, 1})
				got := tell(t, f)
				told[got]++
				if done && got != "to=newer" {
					t.Error(armed, pick, got)
				}
				if armed == 0 && strings.HasPrefix(got, "to=newer") {
					t.Error("a rename that wasn't done", pick, got)
				}
			}
		}
		left := "from=newer"
		if over {
			left += " to=older"
		}
		if len(told) != 2 || told[left] == 0 || told["to=newer"] == 0 {
			t.Error(told)
		}
	}
}

// P7.5: what is handed in is neither kept nor changed, its spare room neither.
func TestArgumentsStayTheirs(t *testing.T) {
	f := mustNew(t, 100)
	f.Create("a")
	f.Create("b")
	whole := []byte("abcdefgh")
	f.Append("a", whole[:3])
	f.Append("b", whole[:3])
	f.Append("a", []byte("XYZ"))
	f.Append("a", whole[3:5])
	if string(whole) != "abcdefgh" {
		t.Errorf("%q", whole)
	}
	for i := range whole {
		whole[i] = '!'
	}
	wantTell(t, f, "a=abcXYZde b=abc")
	picks := []int{2, 7, 3, 5, 6}
	f.Crash(picks[:3])
	wantTell(t, f, "a=abcXYZ\x31 b=ab\x36")
	if string(whole) != "!!!!!!!!" || !slices.Equal(picks, []int{2, 7, 3, 5, 6}) {
		t.Error(whole, picks)
	}
}

// P7.5: an answer that is written over, or grown, changes nothing; nor is it changed by what is done later.
func TestAnswersAreNewMemory(t *testing.T) {
	f := mustNew(t, 100)
	mustMake(t, f, "a", "abcdefgh")
	mustMake(t, f, "b", "xyz")
	first, _ := f.Read("a", 0, 4)
	second, _ := f.Read("a", 0, 8)
	names, _ := f.List()
	for i := range first[:cap(first)] {
		first[:cap(first)][i] = '!'
	}
	for i := range names[:cap(names)] {
		names[:cap(names)][i] = "!"
	}
	wantTell(t, f, "a=abcdefgh b=xyz")
	third, _ := f.List()
	f.Append("a", []byte("ij"))
	f.Crash([]int{2, 3})
	f.Append("a", []byte("123456"))
	f.Create("0")
	if string(second) != "abcdefgh" || !slices.Equal(third, []string{"a", "b"}) {
		t.Errorf("%q %q", second, third)
	}
	wantTell(t, f, "0= a=ab\x36123456 b=")
}

// P7.1: directories know nothing of each other.
func TestApart(t *testing.T) {
	f, g := mustNew(t, 3), mustNew(t, 3)
	mustLast(t, f, "a", "xyz")
	wantTell(t, g, "")
	mustMake(t, g, "a", "123")
	f.Arm(0)
	f.SyncDir()
	if !f.Off() || g.Off() {
		t.Error(f.Off(), g.Off())
	}
	g.Crash(nil)
	if !f.Off() {
		t.Error("on")
	}
	wantCrash(t, f, "a=xyz")
}
