package ikey

import (
	"bytes"
	"encoding/binary"
	"math"
	"math/big"
	"sort"
	"strings"
	"testing"
	"unsafe"

	"assart/api"
)

// drawn answers numbers that look at random and are the same each time.
type drawn uint64

func (d *drawn) below(n int) int {
	*d = *d*6364136223846793005 + 1442695040888963407
	return int(uint64(*d)>>33) % n
}

// text answers one of so many bytes, nearly all of them at the edges of a byte.
func (d *drawn) text(size int) string {
	b := make([]byte, size)
	for i := range b {
		b[i] = []byte{0, 0, 1, 2, 'a', 'b', 254, 255, 255, byte(d.below(256))}[d.below(10)]
	}
	return string(b)
}

var longest = strings.Repeat("k", api.MaxKey)

// versions answers many, in no order, each but once.
func versions() []api.Ver {
	keys := []string{"\x00", "\x00\x00", "\x00\x01", "\x00\xff", "\x01", "a", "a\x00", "a\x00\x00", "a\x00\xff", "a\x01", "a\xff", "ab", "b", "\xff", "\xff\x00", "\xff\xff",
		longest, longest[1:], longest[1:] + "\x00", strings.Repeat("\x00", api.MaxKey), strings.Repeat("\xff", api.MaxKey)}
	var all []api.Ver
	for _, key := range keys {
		for _, seq := range []int{0, 1, 2, 127, 128, 255, 256, 257, 65535, 65536, 1<<32 - 1, 1 << 32, 0x0123456789ABCD, 1<<55 - 1, 1 << 55, api.MaxSeq - 1, api.MaxSeq} {
			all = append(all, api.Ver{Key: key, Seq: seq, Kind: api.Del}, api.Ver{Key: key, Seq: seq, Kind: api.Put})
		}
	}
	return all
}

// noVersions answers what Check refuses.
func noVersions() []api.Ver {
	return []api.Ver{
		{}, {Key: "", Seq: 1, Kind: api.Put}, {Key: longest + "k", Seq: 1, Kind: api.Put}, {Key: strings.Repeat("\x00", 65)}, {Key: strings.Repeat(longest, 100)},
		{Key: "a", Seq: -1}, {Key: "a", Seq: math.MinInt}, {Key: "a", Seq: api.MaxSeq + 1}, {Key: "a", Seq: math.MaxInt}, {Key: "a", Seq: -1, Kind: api.Put},
		{Key: "a", Kind: -1}, {Key: "a", Kind: 2}, {Key: "a", Kind: 256}, {Key: "a", Kind: 257}, {Key: "a", Kind: math.MinInt}, {Key: "a", Kind: math.MaxInt},
		{Key: "", Seq: -1, Kind: 2},
	}
}

func TestCheck(t *testing.T) {
	for _, v := range versions() {
		if e := Check(v); e != api.OK {
			t.Error(v, e)
		}
	}
	for _, v := range noVersions() {
		if e := Check(v); e != api.ErrArg {
			t.Error(v, e)
		}
		if b, e := Encode(v); len(b) != 0 || e != api.ErrArg {
			t.Error(v, b, e)
		}
		if b, e := Sortable(v); len(b) != 0 || e != api.ErrArg {
			t.Error(v, b, e)
		}
	}
}

func TestLess(t *testing.T) {
	inOrder := []api.Ver{
		{Key: "", Seq: math.MaxInt, Kind: math.MinInt}, {Key: "", Seq: 0, Kind: 7}, {Key: "", Seq: 0, Kind: -7}, {Key: "", Seq: math.MinInt, Kind: math.MaxInt},
		{Key: "\x00", Seq: 5, Kind: 0}, {Key: "\x00\x00", Seq: 5, Kind: 0},
		{Key: "a", Seq: api.MaxSeq + 1, Kind: 0}, {Key: "a", Seq: api.MaxSeq, Kind: 1}, {Key: "a", Seq: 2, Kind: 1}, {Key: "a", Seq: 2, Kind: 0}, {Key: "a", Seq: 1, Kind: 2},
		{Key: "a", Seq: 1, Kind: 1}, {Key: "a", Seq: 1, Kind: 0}, {Key: "a", Seq: 1, Kind: -1}, {Key: "a", Seq: 0, Kind: 1}, {Key: "a", Seq: -1, Kind: 1},
		{Key: "a\x00", Seq: 9, Kind: 1}, {Key: "aa", Seq: 9, Kind: 1}, {Key: "ab", Seq: 9, Kind: 1}, {Key: "b", Seq: 1, Kind: 1}, {Key: "\x7f", Seq: 1, Kind: 1}, {Key: "\x80", Seq: 1, Kind: 1},
		{Key: "\xc3\xa4", Seq: 1, Kind: 1}, {Key: "\xff", Seq: 1, Kind: 1}, {Key: strings.Repeat("\xff", 65), Seq: 1, Kind: 1}, {Key: strings.Repeat("\xff", 66), Seq: 1, Kind: 1},
	}
	for i, a := range inOrder {
		for j, b := range inOrder {
			if Less(a, b) != (i < j) {
				t.Error(a, b)
			}
		}
	}
}

func TestEncode(t *testing.T) {
	for _, x := range []struct {
		v    api.Ver
		want string
	}{
		{api.Ver{Key: "a", Seq: 1, Kind: api.Put}, "a\x01\x01\x00\x00\x00\x00\x00\x00"},
		{api.Ver{Key: "a", Seq: 0, Kind: api.Del}, "a\x00\x00\x00\x00\x00\x00\x00\x00"},
		{api.Ver{Key: "\x00\xff", Seq: 258, Kind: api.Del}, "\x00\xff\x00\x02\x01\x00\x00\x00\x00\x00"},
		{api.Ver{Key: "b", Seq: api.MaxSeq, Kind: api.Put}, "b\x01\xff\xff\xff\xff\xff\xff\xff"},
		{api.Ver{Key: longest, Seq: 0x01020304050607, Kind: api.Put}, longest + "\x01\x07\x06\x05\x04\x03\x02\x01"},
	} {
		if b, e := Encode(x.v); string(b) != x.want || e != api.OK {
			t.Errorf("%v: %x %d", x.v, b, e)
		}
	}
	for _, v := range versions() {
		want := binary.LittleEndian.AppendUint64([]byte(v.Key), uint64(v.Seq)*256+uint64(v.Kind))
		if b, e := Encode(v); !bytes.Equal(b, want) || e != api.OK {
			t.Errorf("%v: %x %d", v, b, e)
		}
	}
}

func TestSortable(t *testing.T) {
	for _, x := range []struct {
		v    api.Ver
		want string
	}{
		{api.Ver{Key: "a\x00", Seq: 0, Kind: api.Del}, "a\x00\xff\x00\x00\xff\xff\xff\xff\xff\xff\xff\xff"},
		{api.Ver{Key: "a", Seq: 0, Kind: api.Put}, "a\x00\x00\xff\xff\xff\xff\xff\xff\xff\xfe"},
		{api.Ver{Key: "\xff", Seq: api.MaxSeq, Kind: api.Put}, "\xff\x00\x00\x00\x00\x00\x00\x00\x00\x00\xfe"},
		{api.Ver{Key: "\x00", Seq: 0x01020304050607, Kind: api.Del}, "\x00\xff\x00\x00\xfe\xfd\xfc\xfb\xfa\xf9\xf8\xff"},
		{api.Ver{Key: "\x00\x00b", Seq: 1, Kind: api.Del}, "\x00\xff\x00\xffb\x00\x00\xff\xff\xff\xff\xff\xff\xfe\xff"},
	} {
		if b, e := Sortable(x.v); string(b) != x.want || e != api.OK {
			t.Errorf("%v: %x %d", x.v, b, e)
		}
	}
	for _, v := range versions() {
		key := strings.ReplaceAll(v.Key, "\x00", "\x00\xff") + "\x00\x00"
		want := binary.BigEndian.AppendUint64([]byte(key), math.MaxUint64-(uint64(v.Seq)*256+uint64(v.Kind)))
		if b, e := Sortable(v); !bytes.Equal(b, want) || e != api.OK {
			t.Errorf("%v: %x %d", v, b, e)
		}
	}
}

func TestVersionsComeBack(t *testing.T) {
	for _, v := range versions() {
		b, _ := Encode(v)
		if w, e := Decode(b); w != v || e != api.OK {
			t.Error(v, w, e)
		}
		b, _ = Sortable(v)
		if w, e := Unsort(b); w != v || e != api.OK {
			t.Error(v, w, e)
		}
	}
}

// TestSortableHasTheOrder: byte by byte, of all pairs of versions.
func TestSortableHasTheOrder(t *testing.T) {
	all := versions()
	forms := make([][]byte, len(all))
	for i, v := range all {
		forms[i], _ = Sortable(v)
	}
	for i, a := range all {
		for j, b := range all {
			if less := bytes.Compare(forms[i], forms[j]) < 0; less != Less(a, b) {
				t.Fatal(a, b, less)
			}
		}
	}
}

func TestDecodeRefuses(t *testing.T) {
	sound := "\x01\x01\x00\x00\x00\x00\x00\x00"
	for _, s := range []string{
		"", "a", "1234567", "\x01\x01\x00\x00\x00\x00\x00", sound, "a\x02\x01\x00\x00\x00\x00\x00\x00", "a\x80\x01\x00\x00\x00\x00\x00\x00", "a\xff\xff\xff\xff\xff\xff\xff\xff",
		longest + "k" + sound, longest + "k" + "\x02" + sound[1:], strings.Repeat(longest, 1000) + sound, strings.Repeat("\x00", 8), strings.Repeat("\x00", 73),
	} {
		if v, e := Decode([]byte(s)); v != (api.Ver{}) || e != api.ErrForm {
			t.Errorf("%x: %v %d", s, v, e)
		}
	}
	if v, e := Decode(nil); v != (api.Ver{}) || e != api.ErrForm {
		t.Error(v, e)
	}
	if v, e := Decode([]byte(longest + sound)); v != (api.Ver{Key: longest, Seq: 1, Kind: api.Put}) || e != api.OK {
		t.Error(v, e)
	}
}

func TestUnsortRefuses(t *testing.T) {
	sound := "\xff\xff\xff\xff\xff\xff\xfe\xfe"
	noughts := strings.Repeat("\x00\xff", 64)
	for _, s := range []string{
		"", "a", "a\x00", "\x00", "\x00\x00", "\x00\xff", "a\x00\x00", "a\x00\x00" + sound[1:], "a\x00\x00" + sound + "\x00", "a\x00\x00" + sound + "\xff", "a\x00\x00" + sound + sound,
		"\x00\x00" + sound, "a" + sound, "a\x00" + sound, "a\x00\x01" + sound, "a\x00\xfe\x00\x00" + sound, "a\x00\x01\x00\x00" + sound, "a\x00b\x00\x00" + sound,
		"a\x00\x00\xff\xff\xff\xff\xff\xff\xfe\xfd", "a\x00\x00\xff\xff\xff\xff\xff\xff\xfe\x00", "a\x00\x00\xff\xff\xff\xff\xff\xff\xfe\x7f", "a\x00\x00\x00\x00\x00\x00\x00\x00\x00\x00",
		longest + "k\x00\x00" + sound, noughts + "k\x00\x00" + sound, noughts + "\x00\xff\x00\x00" + sound, strings.Repeat(longest, 1000) + "\x00\x00" + sound, "aaaaaaaaaaaaaaaaaaa", "a\x00\xff",
	} {
		if v, e := Unsort([]byte(s)); v != (api.Ver{}) || e != api.ErrForm {
			t.Errorf("%x: %v %d", s, v, e)
		}
	}
	if v, e := Unsort(nil); v != (api.Ver{}) || e != api.ErrForm {
		t.Error(v, e)
	}
	for _, x := range [][2]string{{longest, longest}, {noughts, strings.Repeat("\x00", 64)}} {
		if v, e := Unsort([]byte(x[0] + "\x00\x00" + sound)); v != (api.Ver{Key: x[1], Seq: 1, Kind: api.Put}) || e != api.OK {
			t.Error(v, e)
		}
	}
}

// TestAllBytes: what a decoder takes is just what is made of a version, and nothing else.
func TestAllBytes(t *testing.T) {
	var d drawn
	var taken [2]int
	for range 300000 {
		b := []byte(d.text(d.below(20)))
		if d.below(2) == 0 {
			b = []byte(strings.ReplaceAll(d.text(d.below(4)), "\x00", "\x00\xff") + "\x00\x00" + d.text(6+d.below(4)))
		}
		v, e := Decode(b)
		made, _ := Encode(v)
		if e == api.OK && !bytes.Equal(made, b) || e != api.OK && (e != api.ErrForm || v != api.Ver{}) {
			t.Fatalf("%x: %v %d", b, v, e)
		}
		if e == api.OK {
			taken[0]++
		}
		v, e = Unsort(b)
		made, _ = Sortable(v)
		if e == api.OK && !bytes.Equal(made, b) || e != api.OK && (e != api.ErrForm || v != api.Ver{}) {
			t.Fatalf("%x: %v %d", b, v, e)
		}
		if e == api.OK {
			taken[1]++
		}
	}
	if taken[0] < 1000 || taken[1] < 1000 {
		t.Error("few were taken:", taken)
	}
}

func TestPart(t *testing.T) {
	long := strings.Repeat("x", 100000)
	for _, x := range [][3]string{
		{"abcd", "abz", "abd"}, {"ab", "abc", "ab"}, {"b", "a", "b"}, {"", "x", ""}, {"", "", ""}, {"x", "", "x"}, {"a", "a", "a"}, {"abc", "ab", "abc"}, {"abc", "abc", "abc"},
		{"abcd", "abd", "abcd"}, {"abcde", "abd", "abce"}, {"abcde", "abd\x00", "abd"}, {"abc", "b", "ac"}, {"abc", "c", "b"}, {"ab", "b", "ab"}, {"a", "c", "a"},
		{"a\xff", "b", "a\xff"}, {"a\xff\xff", "b", "a\xff\xff"}, {"a\xff\x05\x07", "b", "a\xff\x06"}, {"a\xff\xff\x05", "b", "a\xff\xff\x05"}, {"a\xff\xff", "b\x01", "b"}, {"a\xff\xff", "b\x00", "b"},
		{"\xff", "\xff\x00", "\xff"}, {"\xff\xff\xff", "\xff\xff\xff\x00", "\xff\xff\xff"}, {"\xfe\xfe\xfe", "\xff", "\xfe\xff"}, {"\xfe\xff\xfe", "\xff", "\xfe\xff\xfe"}, {"\x00\x00\x00", "\x00\x01", "\x00\x00\x00"},
		{"\x00\x00\x00", "\x00\x01\x00", "\x00\x01"}, {"a", "a\x00", "a"}, {"abz", "abcd", "abz"}, {"\xc3\xa4\xc3", "\xc3\xa6", "\xc3\xa5"},
		{long + "ax", long + "c", long + "b"}, {"a" + strings.Repeat("\xff", 100000), "b", "a" + strings.Repeat("\xff", 100000)}, {long, long + "x", long},
	} {
		if s := Part(x[0], x[1]); s != x[2] {
			t.Errorf("%.20q, %.20q: %.20q", x[0], x[1], s)
		}
	}
}

// least answers the least text of so many bytes from a on: its beginning is raised as a whole number.
func least(a string, size int) (string, bool) {
	if size >= len(a) {
		return a + strings.Repeat("\x00", size-len(a)), true
	}
	raised := new(big.Int).SetBytes([]byte(a[:size]))
	raised.Add(raised, big.NewInt(1))
	if raised.BitLen() > 8*size {
		return "", false
	}
	return string(raised.FillBytes(make([]byte, size))), true
}

// modelPart tries the counts of bytes one behind the other.
func modelPart(a, b string) string {
	for size := 0; a < b && size < len(a); size++ {
		if s, ok := least(a, size); ok && s < b {
			return s
		}
	}
	return a
}

func TestPartAsTheModel(t *testing.T) {
	var d drawn
	for range 300000 {
		same := d.text(d.below(4))
		a, b := same+d.text(d.below(6)), same+d.text(d.below(6))
		if s, want := Part(a, b), modelPart(a, b); s != want {
			t.Fatalf("%x, %x: %x, not %x", a, b, s, want)
		}
	}
}

// TestPartAmongAll: held against all texts of up to two bytes, sorted.
func TestPartAmongAll(t *testing.T) {
	all := [3][]string{{""}}
	for size := 1; size <= 2; size++ {
		for _, s := range all[size-1] {
			for c := range 256 {
				all[size] = append(all[size], s+string([]byte{byte(c)}))
			}
		}
	}
	few := []string{""}
	for at := 0; len(few[at]) < 3; at++ {
		for _, c := range []byte{0, 1, 'a', 'b', 254, 255} {
			few = append(few, few[at]+string([]byte{c}))
		}
	}
	for _, a := range few {
		for _, b := range few {
			want := a
			for size := min(2, len(a)); size >= 0; size-- {
				if at := sort.SearchStrings(all[size], a); at < len(all[size]) && all[size][at] < b {
					want = all[size][at]
				}
			}
			if s := Part(a, b); s != want {
				t.Fatalf("%x, %x: %x, not %x", a, b, s, want)
			}
		}
	}
}

// TestBytesStay: what is handed in is as it was, its spare room too.
func TestBytesStay(t *testing.T) {
	for _, s := range []string{"", "a\x01\x01\x00\x00\x00\x00\x00\x00", "a\x00\xff\x00\x00\xff\xff\xff\xff\xff\xff\xff\xff", "a\x00\x00\xff\xff\xff\xff\xff\xff\xff\xfd", "\x00\xff\x00\xff", "12345678"} {
		room := []byte(s + "behind it")
		b := room[:len(s)]
		Decode(b)
		Unsort(b)
		if string(room) != s+"behind it" {
			t.Errorf("%x: %x", s, room)
		}
	}
}

// spoil writes over bytes, to the end of their room.
func spoil(b []byte) {
	b = b[:cap(b)]
	for i := range b {
		b[i] ^= 0xA5
	}
}

func TestNewMemory(t *testing.T) {
	v := api.Ver{Key: "a\x00b", Seq: 77, Kind: api.Put}
	for i, form := range []func(api.Ver) ([]byte, api.Errno){Encode, Sortable} {
		first, _ := form(v)
		second, _ := form(v)
		want := string(second)
		back, e := []func([]byte) (api.Ver, api.Errno){Decode, Unsort}[i](first)
		spoil(first)
		if third, _ := form(v); string(second) != want || string(third) != want || v.Key != "a\x00b" {
			t.Error(i, second, third)
		}
		if back != v || e != api.OK {
			t.Error(i, back, e)
		}
	}
	for _, x := range [][2]string{{"abcd", "abz"}, {"ab", "abc"}, {"b", "a"}} {
		if s := Part(x[0], x[1]); unsafe.StringData(s) == unsafe.StringData(x[0]) || unsafe.StringData(s) == unsafe.StringData(x[1]) {
			t.Error(x, s)
		}
	}
}
