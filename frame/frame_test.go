package frame

import (
	"bytes"
	"math"
	"slices"
	"strings"
	"testing"
	"unsafe"

	"assart/api"
)

func TestFrame(t *testing.T) {
	x121 := strings.Repeat("x", 121)
	for _, x := range []struct {
		at   int
		rec  string
		want string
	}{
		{0, "", "\x05\x2b\x28\x43\x00\x00\x01"},
		{0, "a", "\xb5\xcd\x0b\xa2\x01\x00\x01a"},
		{0, "abc", "\xf2\x70\xe8\x9d\x03\x00\x01abc"},
		{118, "abc", "\xf2\x70\xe8\x9d\x03\x00\x01abc"},
		{125, "a", "\x00\x00\x00\xb5\xcd\x0b\xa2\x01\x00\x01a"},
		{127, "", "\x00\x05\x2b\x28\x43\x00\x00\x01"},
		{122, "a", "\x00\x00\x00\x00\x00\x00\xb5\xcd\x0b\xa2\x01\x00\x01a"},
		{121, "", "\x05\x2b\x28\x43\x00\x00\x01"},
		{121, "abc", "\x64\x51\xd0\xe9\x00\x00\x02" + "\xad\xb5\x75\x70\x03\x00\x04abc"},
		{121, x121 + "abc", "\x64\x51\xd0\xe9\x00\x00\x02" + "\xac\x56\xff\x9e\x79\x00\x03" + x121 + "\xad\xb5\x75\x70\x03\x00\x04abc"},
		{0, strings.Repeat("\x00", 122), "\x4e\x69\xf2\xf0\x79\x00\x02" + strings.Repeat("\x00", 121) + "\xae\x6a\xa0\xce\x01\x00\x04\x00"},
	} {
		for _, at := range []int{x.at, x.at + 128, x.at + 1<<62} {
			if b, e := Frame(at, []byte(x.rec)); string(b) != x.want || e != api.OK {
				t.Errorf("%d, %q: %x %d", at, x.rec, b, e)
			}
		}
	}
}

func TestFrameRefuses(t *testing.T) {
	for _, at := range []int{-1, -6, -7, -122, -127, -128, -129, math.MinInt, math.MinInt + 1} {
		for _, rec := range []string{"", "abc", strings.Repeat("x", 1000)} {
			if b, e := Frame(at, []byte(rec)); len(b) != 0 || e != api.ErrArg {
				t.Errorf("%d, %q: %x %d", at, rec, b, e)
			}
		}
	}
}

func TestFrameAsTheModel(t *testing.T) {
	rec := text(11, 2000)
	for at := range 256 {
		for size := range 400 {
			want := modelFrame(at, rec[:size])
			if b, e := Frame(at, []byte(rec[:size])); string(b) != want || e != api.OK {
				t.Fatalf("%d, %d: %x %d, not %x", at, size, b, e, want)
			}
		}
		far := math.MaxInt - at
		if b, e := Frame(far, []byte(rec)); string(b) != modelFrame(far, rec) || e != api.OK {
			t.Fatalf("%d: %x %d", far, b, e)
		}
	}
	long := text(12, 300000)
	if b, e := Frame(77, []byte(long)); string(b) != modelFrame(77, long) || e != api.OK {
		t.Error(len(b), e)
	}
	if b, e := Frame(0, nil); string(b) != pieceOf(1, "") || e != api.OK {
		t.Errorf("%x %d", b, e)
	}
}

func TestRoom(t *testing.T) {
	for _, x := range []struct{ at, want int }{
		{0, 121}, {1, 120}, {60, 61}, {120, 1}, {121, 0}, {122, 121}, {123, 121}, {127, 121}, {128, 121}, {129, 120}, {249, 0}, {250, 121}, {256, 121},
		{math.MaxInt, 121}, {math.MaxInt - 5, 121}, {math.MaxInt - 6, 0}, {math.MaxInt - 7, 1}, {math.MaxInt - 127, 121}, {1 << 62, 121}, {1<<32 + 3, 118},
		{-1, 0}, {-5, 0}, {-7, 0}, {-121, 0}, {-122, 0}, {-127, 0}, {-128, 0}, {-129, 0}, {-256, 0}, {math.MinInt, 0}, {math.MinInt + 1, 0},
	} {
		if n := Room(x.at); n != x.want {
			t.Error(x, n)
		}
	}
	for at := range 1000 {
		want := 121 - at%128
		if want < 0 {
			want = 121
		}
		if n := Room(at); n != want {
			t.Error(at, n)
		}
	}
}

// scanned holds what Scan tells against what is wanted.
func scanned(t *testing.T, name, file string, want []string, end int) {
	t.Helper()
	if recs, n := Scan([]byte(file)); !slices.Equal(recs, want) || n != end {
		t.Errorf("%s: %q %d, not %q %d", name, recs, n, want, end)
	}
}

func TestScan(t *testing.T) {
	x := strings.Repeat("x", 121)
	for name, c := range map[string]struct {
		file string
		want []string
		end  int
	}{
		"nothing":                     {"", nil, 0},
		"one record":                  {pieceOf(1, "abc"), []string{"abc"}, 10},
		"one of no bytes":             {pieceOf(1, ""), []string{""}, 7},
		"two":                         {pieceOf(1, "") + pieceOf(1, "abc"), []string{"", "abc"}, 17},
		"two pieces in one block":     {pieceOf(2, "ab") + pieceOf(4, "c"), []string{"abc"}, 17},
		"three, and none of full":     {pieceOf(2, "") + pieceOf(3, "ab") + pieceOf(4, "c"), []string{"abc"}, 24},
		"pieces without bytes":        {pieceOf(2, "") + pieceOf(3, "") + pieceOf(3, "") + pieceOf(4, ""), []string{""}, 28},
		"a piece that ends its block": {pieceOf(1, x) + pieceOf(1, "a"), []string{x, "a"}, 136},
		"a head that ends its block":  {pieceOf(1, x[:114]) + pieceOf(1, "") + pieceOf(1, "b"), []string{x[:114], "", "b"}, 136},
		"a gap of noughts":            {pieceOf(1, x[:115]) + "\x00\x00\x00\x00\x00\x00" + pieceOf(1, "a"), []string{x[:115], "a"}, 136},
		"a gap of other bytes":        {pieceOf(1, x[:115]) + "\x01\xff\x80abc" + pieceOf(1, "a"), []string{x[:115], "a"}, 136},
		"a gap of one":                {pieceOf(1, x[:120]) + "?" + pieceOf(1, "a"), []string{x[:120], "a"}, 136},
		"a gap within a record":       {pieceOf(2, x[:117]) + "zzzz" + pieceOf(3, x) + pieceOf(4, "a"), []string{x[:117] + x + "a"}, 264},
		"a gap at the end":            {pieceOf(1, x[:118]) + "\x00\x00\x00", []string{x[:118]}, 125},
		"a gap that is cut":           {pieceOf(1, x[:116]) + "\x00\x00", []string{x[:116]}, 123},
		"the same kinds again":        {pieceOf(2, "a") + pieceOf(4, "b") + pieceOf(2, "c") + pieceOf(3, "d") + pieceOf(4, "e"), []string{"ab", "cde"}, 40},
	} {
		scanned(t, name, c.file, c.want, c.end)
	}
	if recs, n := Scan(nil); len(recs) != 0 || n != 0 {
		t.Error(recs, n)
	}
}

// TestScanEnds: behind a record that counts comes what ends all, whatever right ones come then.
func TestScanEnds(t *testing.T) {
	x := strings.Repeat("x", 300)
	for name, spoilt := range map[string]string{
		"noughts":                  strings.Repeat("\x00", 7),
		"kind 0":                   pieceOf(0, "a"),
		"kind 5":                   pieceOf(5, "a"),
		"kind 129":                 pieceOf(129, "a"),
		"kind 255":                 pieceOf(255, ""),
		"a sum of the bytes alone": masked(sumOf("a")) + "\x01\x00\x01a",
		"a sum that is bare":       bare(sumOf("\x01a")) + "\x01\x00\x01a",
		"a sum with the count":     masked(sumOf("\x01\x00\x01a")) + "\x01\x00\x01a",
		"a kind behind the bytes":  masked(sumOf("a\x01")) + "\x01\x00\x01a",
		"the highest byte first":   turned(masked(sumOf("\x01a"))) + "\x01\x00\x01a",
		"a count turned":           masked(sumOf("\x01a")) + "\x00\x01\x01a",
		"a count too great by 256": masked(sumOf("\x01a")) + "\x01\x01\x01a",
		"over the block's end":     pieceOf(1, x[:122]),
		"far over the block's end": pieceOf(1, x),
	} {
		scanned(t, name, pieceOf(1, "ab")+spoilt+pieceOf(1, "c"), []string{"ab"}, 9)
		scanned(t, name+", alone", spoilt+pieceOf(1, "c"), nil, 0)
		scanned(t, name+", in a record", pieceOf(1, "ab")+pieceOf(2, "c")+spoilt+pieceOf(4, "d"), []string{"ab"}, 9)
	}
}

// TestOverTheBlock: a piece may end where its block ends, and not a byte behind that.
func TestOverTheBlock(t *testing.T) {
	x := strings.Repeat("x", 200)
	for size := range 115 {
		ahead := pieceOf(1, x[:size])
		room := 128 - len(ahead) - 7
		scanned(t, "to the end", ahead+pieceOf(1, x[:room])+pieceOf(1, "c"), []string{x[:size], x[:room], "c"}, 136)
		for more := 1; more < 10; more++ {
			scanned(t, "over it", ahead+pieceOf(1, x[:room+more])+pieceOf(1, "c"), []string{x[:size]}, len(ahead))
		}
	}
}

// TestKindsThatFollow: all rows of up to six kinds, those that are none among them.
func TestKindsThatFollow(t *testing.T) {
	rows := []string{""}
	for at := 0; len(rows[at]) < 6; at++ {
		for _, kind := range "012345" {
			rows = append(rows, rows[at]+string(kind))
		}
	}
	for _, row := range rows {
		file := ""
		for i, kind := range row {
			file += pieceOf(byte(kind-'0'), text(i, i))
		}
		want, end := modelScan(file)
		if recs, n := Scan([]byte(file)); !slices.Equal(recs, want) || n != end {
			t.Fatalf("%s: %q %d, not %q %d", row, recs, n, want, end)
		}
	}
}

// sizes are those of records about the edges of blocks, one behind the other.
var sizes = []int{0, 3, 97, 0, 0, 1, 107, 121, 122, 120, 0, 114, 7, 300, 5, 100, 363, 364, 1, 115, 2, 116, 3}

// lay answers a file of records of these sizes, the records, and where each ends.
func lay(sizes []int) (string, []string, []int) {
	var file []byte
	var recs []string
	var ends []int
	for i, size := range sizes {
		recs = append(recs, text(i+1, size))
		b, _ := Frame(len(file), []byte(recs[i]))
		file = append(file, b...)
		ends = append(ends, len(file))
	}
	return string(file), recs, ends
}

// holds: does Scan tell the records that end within so many bytes, and where they end?
func holds(b []byte, have int, recs []string, ends []int) bool {
	count, end := 0, 0
	for count < len(ends) && ends[count] <= have {
		end = ends[count]
		count++
	}
	got, n := Scan(b)
	return slices.Equal(got, recs[:count]) && n == end
}

func TestLaidIsScanned(t *testing.T) {
	file, recs, ends := lay(sizes)
	if !holds([]byte(file), len(file), recs, ends) {
		t.Error("the sizes about the edges")
	}
	var d drawn
	for round := range 2000 {
		some := make([]int, d.below(20))
		for i := range some {
			some[i] = d.below([]int{5, 125, 400}[d.below(3)])
		}
		file, recs, ends := lay(some)
		if !holds([]byte(file), len(file), recs, ends) {
			t.Fatal(round, some)
		}
	}
	long := []int{300000, 0, 300000}
	file, recs, ends = lay(long)
	if !holds([]byte(file), len(file), recs, ends) {
		t.Error("long records")
	}
}

// TestCut: a file that is cut at each place, as it is, and with some other last bytes, those of kinds and counts among them.
func TestCut(t *testing.T) {
	file, recs, ends := lay(sizes)
	for cut := range len(file) + 1 {
		b := []byte(file[:cut])
		if !holds(b, cut, recs, ends) {
			t.Fatal("cut at", cut)
		}
		for _, c := range []byte{0, 1, 2, 3, 4, 5, 6, 7, 8, 114, 115, 120, 121, 122, 127, 128, 129, 255} {
			if cut == 0 || c == file[cut-1] {
				continue
			}
			b[cut-1] = c
			if !holds(b, cut-1, recs, ends) {
				t.Fatal("cut at", cut, "the last byte", c)
			}
		}
	}
}

// TestAnyOtherLastByte: the same of a short file, with all other bytes.
func TestAnyOtherLastByte(t *testing.T) {
	file, recs, ends := lay([]int{3, 0, 96, 0, 1, 130, 0})
	for cut := 1; cut <= len(file); cut++ {
		b := []byte(file[:cut])
		for c := range 256 {
			b[cut-1] = byte(c)
			have := cut
			if b[cut-1] != file[cut-1] {
				have--
			}
			if !holds(b, have, recs, ends) {
				t.Fatal("cut at", cut, "the last byte", c)
			}
		}
	}
}

// TestSpoilt: one bit that is another one ends the records there, but in a gap.
func TestSpoilt(t *testing.T) {
	file, recs, ends := lay([]int{3, 0, 101, 140, 1})
	gap := 3
	for at := range len(file) {
		begin := 0
		for _, end := range ends {
			if end <= at {
				begin = end
			}
		}
		have := begin
		if at >= 128-gap && at < 128 {
			have = len(file)
		}
		for bit := range 8 {
			b := []byte(file)
			b[at] ^= 1 << bit
			if !holds(b, have, recs, ends) {
				t.Error(at, bit)
			}
		}
	}
}

// TestScanAsTheModel: files of drawn pieces, most of them right, and drawn bytes.
func TestScanAsTheModel(t *testing.T) {
	var d drawn
	told := 0
	for round := range 20000 {
		file := d.file()
		b := []byte(file)
		if d.below(4) == 0 && len(b) > 0 {
			b[d.below(len(b))] ^= byte(1 << d.below(8))
		}
		b = b[:len(b)-d.below(2)*d.below(len(b)+1)]
		want, end := modelScan(string(b))
		if recs, n := Scan(b); !slices.Equal(recs, want) || n != end {
			t.Fatalf("%d: %x: %q %d, not %q %d", round, b, recs, n, want, end)
		}
		told += len(want)
	}
	if told < 20000 {
		t.Error("too few records to tell anything:", told)
	}
	for range 20000 {
		b := []byte(d.text(d.below(300)))
		want, end := modelScan(string(b))
		if recs, n := Scan(b); !slices.Equal(recs, want) || n != end {
			t.Fatalf("%x: %q %d", b, recs, n)
		}
	}
}

// TestBytesStay: what is handed in is as it was, its spare room too.
func TestBytesStay(t *testing.T) {
	file, _, _ := lay([]int{3, 0, 96, 130, 0})
	for _, s := range []string{"", "a", text(1, 121), text(2, 122), text(3, 500), file, file[:200], strings.Repeat("\x00", 20)} {
		spare := "behind it" + text(4, 200)
		room := []byte(s + spare)
		b := room[:len(s)]
		for _, at := range []int{-1, 0, 100, 121, 125} {
			Frame(at, b)
		}
		Scan(b)
		if string(room) != s+spare {
			t.Errorf("%x: %x", s, room)
		}
	}
}

// spoil writes over bytes, to the end of their room.
func spoil(b []byte) {
	b = b[:cap(b)]
	for i := range b {
		b[i] ^= 0xA5
	}
}

func TestNewMemory(t *testing.T) {
	for _, at := range []int{0, 100, 125} {
		for _, size := range []int{0, 1, 121, 300} {
			s := text(9, size)
			rec := []byte(s)
			one, _ := Frame(at, rec)
			two, _ := Frame(at, rec)
			spoil(one)
			if string(two) != modelFrame(at, s) || string(rec) != s {
				t.Error(at, size, "the first answer is shared")
			}
			spoil(rec)
			if string(two) != modelFrame(at, s) {
				t.Error(at, size, "the record is shared")
			}
		}
	}
	file, want, _ := lay([]int{3, 3, 122, 0, 300})
	b := []byte(file)
	one, _ := Scan(b)
	two, _ := Scan(b)
	spoil(b)
	for i := range one {
		if len(one[i]) > 0 && unsafe.StringData(one[i]) == unsafe.StringData(two[i]) {
			t.Error(i, "a record is shared")
		}
		one[i] = "another one"
	}
	if !slices.Equal(two, want) {
		t.Errorf("%q", two)
	}
}

// TestAnswersHangOnWhatIsGiven: the same bytes with other ones behind, and again.
func TestAnswersHangOnWhatIsGiven(t *testing.T) {
	file, recs, ends := lay([]int{3, 0, 130})
	for _, behind := range []string{"", "\x00\x00", pieceOf(1, "more")} {
		b := append(bytes.Clone([]byte(file)), behind...)[:len(file)]
		if !holds(b, len(b), recs, ends) {
			t.Errorf("%x", behind)
		}
	}
	a, _ := Frame(5, []byte("abcxyz")[:3])
	b, _ := Frame(5+128*9, []byte("abc"))
	if !bytes.Equal(a, b) {
		t.Errorf("%x %x", a, b)
	}
}
