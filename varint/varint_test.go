package varint

import (
	"bytes"
	"encoding/binary"
	"math"
	"math/big"
	"strings"
	"testing"

	"assart/api"
)

const ff9 = "\xff\xff\xff\xff\xff\xff\xff\xff\xff"

// edges are the numbers about each power of 2.
func edges() []uint64 {
	all := []uint64{0, math.MaxUint64, 300, 0x0123456789ABCDEF}
	for at := range 64 {
		n := uint64(1) << at
		all = append(all, n-1, n, n+1)
	}
	return all
}

func TestPut(t *testing.T) {
	for _, x := range []struct {
		n    uint64
		want string
	}{
		{0, "\x00"}, {1, "\x01"}, {127, "\x7f"}, {128, "\x80\x01"}, {300, "\xac\x02"}, {16383, "\xff\x7f"}, {16384, "\x80\x80\x01"},
		{1<<63 - 1, "\xff\xff\xff\xff\xff\xff\xff\xff\x7f"}, {1 << 63, "\x80\x80\x80\x80\x80\x80\x80\x80\x80\x01"}, {math.MaxUint64, ff9 + "\x01"},
	} {
		if b := Put(x.n); string(b) != x.want {
			t.Errorf("%d: %x", x.n, b)
		}
	}
	for _, n := range edges() {
		if b := Put(n); !bytes.Equal(b, binary.AppendUvarint(nil, n)) {
			t.Errorf("%d: %x", n, b)
		}
	}
}

func TestPutSigned(t *testing.T) {
	for _, x := range []struct {
		n    int64
		want string
	}{
		{0, "\x00"}, {-1, "\x01"}, {1, "\x02"}, {-2, "\x03"}, {63, "\x7e"}, {-64, "\x7f"}, {64, "\x80\x01"}, {-65, "\x81\x01"},
		{math.MaxInt64, "\xfe\xff\xff\xff\xff\xff\xff\xff\xff\x01"}, {math.MinInt64, ff9 + "\x01"},
	} {
		if b := PutSigned(x.n); string(b) != x.want {
			t.Errorf("%d: %x", x.n, b)
		}
	}
}

// TestSignedByItsRule reckons 2 n, or -2 n - 1, in numbers without an end.
func TestSignedByItsRule(t *testing.T) {
	for _, u := range edges() {
		n := int64(u)
		twice := new(big.Int).Mul(big.NewInt(2), big.NewInt(n))
		if n < 0 {
			twice.Neg(twice).Sub(twice, big.NewInt(1))
		}
		if b := PutSigned(n); !bytes.Equal(b, Put(twice.Uint64())) {
			t.Errorf("%d: %x", n, b)
		}
	}
}

// TestWhatIsPutIsGot: whatever stands behind, and each piece of a form that is cut is a tail.
func TestWhatIsPutIsGot(t *testing.T) {
	behind := []string{"", "\x00", "\x01", "\x80", "\xff", "\x80\x00", ff9 + ff9}
	for _, n := range edges() {
		b, signed := Put(n), PutSigned(int64(n))
		for _, s := range behind {
			if m, k, e := Get(append(bytes.Clone(b), s...)); m != n || k != len(b) || e != api.OK {
				t.Errorf("%d, %x: %d %d %d", n, s, m, k, e)
			}
			if m, k, e := GetSigned(append(bytes.Clone(signed), s...)); m != int64(n) || k != len(signed) || e != api.OK {
				t.Errorf("%d, %x: %d %d %d", int64(n), s, m, k, e)
			}
		}
		for cut := range b {
			if m, k, e := Get(b[:cut]); m != 0 || k != 0 || e != api.ErrTail {
				t.Errorf("%d, %d: %d %d %d", n, cut, m, k, e)
			}
		}
		for cut := range signed {
			if m, k, e := GetSigned(signed[:cut]); m != 0 || k != 0 || e != api.ErrTail {
				t.Errorf("%d, %d: %d %d %d", int64(n), cut, m, k, e)
			}
		}
	}
}

func TestGetRefuses(t *testing.T) {
	eighties := strings.Repeat("\x80", 9)
	for _, x := range []struct {
		b    string
		want api.Errno
	}{
		{"", api.ErrTail}, {"\x80", api.ErrTail}, {"\xff\x80", api.ErrTail}, {ff9, api.ErrTail}, {eighties, api.ErrTail},
		{"\x80\x00", api.ErrForm}, {"\xff\x00", api.ErrForm}, {"\x80\x80\x00", api.ErrForm}, {"\x80\x00\x01", api.ErrForm},
		{ff9 + "\x00", api.ErrForm}, {ff9 + "\x02", api.ErrForm}, {ff9 + "\x7f", api.ErrForm}, {ff9 + "\x80", api.ErrForm}, {ff9 + "\x81", api.ErrForm},
		{ff9 + "\xff", api.ErrForm}, {ff9 + "\x80\x01", api.ErrForm}, {ff9 + "\x81\x00", api.ErrForm}, {eighties + "\x00", api.ErrForm}, {eighties + "\x80\x80", api.ErrForm},
		{strings.Repeat("\xff", 1000), api.ErrForm},
	} {
		if n, k, e := Get([]byte(x.b)); n != 0 || k != 0 || e != x.want {
			t.Errorf("%x: %d %d %d", x.b, n, k, e)
		}
		if n, k, e := GetSigned([]byte(x.b)); n != 0 || k != 0 || e != x.want {
			t.Errorf("signed %x: %d %d %d", x.b, n, k, e)
		}
		if s, k, e := GetText([]byte(x.b), -1); s != "" || k != 0 || e != x.want {
			t.Errorf("text %x: %q %d %d", x.b, s, k, e)
		}
	}
	if _, _, e := Get(nil); e != api.ErrTail {
		t.Error(e)
	}
}

// TestEachNumberHasOneForm: all bytes of up to three that are got are those that are put.
func TestEachNumberHasOneForm(t *testing.T) {
	for size := 1; size <= 3; size++ {
		for all := range 1 << (8 * size) {
			b := make([]byte, size)
			for i := range b {
				b[i] = byte(all >> (8 * i))
			}
			n, k, e := Get(b)
			last := bytes.IndexFunc(b, func(r rune) bool { return r < 128 })
			switch {
			case last < 0:
				if n != 0 || k != 0 || e != api.ErrTail {
					t.Fatalf("%x: %d %d %d", b, n, k, e)
				}
			case last > 0 && b[last] == 0:
				if n != 0 || k != 0 || e != api.ErrForm {
					t.Fatalf("%x: %d %d %d", b, n, k, e)
				}
			default:
				if k != last+1 || e != api.OK || !bytes.Equal(Put(n), b[:k]) {
					t.Fatalf("%x: %d %d %d", b, n, k, e)
				}
			}
		}
	}
}

func TestText(t *testing.T) {
	long := strings.Repeat("xyz", 100)
	for _, s := range []string{"", "a", "abc", "\x00", "\xff\x80", long[:127], long[:128], long} {
		b := PutText(s)
		if want := string(Put(uint64(len(s)))) + s; string(b) != want {
			t.Errorf("%q: %x", s, b)
		}
		for _, behind := range []string{"", "z", "\xff\xff"} {
			for _, most := range []int{len(s), len(s) + 1, math.MaxInt} {
				if got, k, e := GetText([]byte(string(b)+behind), most); got != s || k != len(b) || e != api.OK {
					t.Errorf("%q, %d: %q %d %d", s, most, got, k, e)
				}
			}
		}
		for _, most := range []int{len(s) - 1, -1, math.MinInt} {
			if got, k, e := GetText(b, most); got != "" || k != 0 || e != api.ErrBig {
				t.Errorf("%q, %d: %q %d %d", s, most, got, k, e)
			}
		}
		for cut := range b {
			if got, k, e := GetText(b[:cut], len(s)); got != "" || k != 0 || e != api.ErrTail {
				t.Errorf("%q, %d: %q %d %d", s, cut, got, k, e)
			}
		}
	}
}

func TestGetTextRefuses(t *testing.T) {
	most := ff9 + "\x01"
	greatestInt := "\xff\xff\xff\xff\xff\xff\xff\xff\x7f"
	for _, x := range []struct {
		b    string
		most int
		want api.Errno
	}{
		{"\x03ab", 9, api.ErrTail}, {"\x03a", 2, api.ErrBig}, {"\x03abc", 2, api.ErrBig}, {"\x80", 0, api.ErrTail}, {"\x80\x00", 0, api.ErrForm},
		{most + "abc", math.MaxInt, api.ErrBig}, {most, 0, api.ErrBig}, {most, -1, api.ErrBig}, {greatestInt + "abc", math.MaxInt, api.ErrTail},
		{greatestInt, math.MaxInt - 1, api.ErrBig}, {"\x80\x80\x80\x80\x80\x80\x80\x80\x80\x01", math.MaxInt, api.ErrBig}, {"\x80\x80\x80\x80\x10", math.MaxInt, api.ErrTail},
		{"\x00", -1, api.ErrBig}, {"\x00", math.MinInt, api.ErrBig}, {"", math.MinInt, api.ErrTail},
	} {
		if s, k, e := GetText([]byte(x.b), x.most); s != "" || k != 0 || e != x.want {
			t.Errorf("%x, %d: %q %d %d", x.b, x.most, s, k, e)
		}
	}
}

func TestFixed(t *testing.T) {
	for _, x := range []struct {
		n    uint64
		size int
		want string
	}{
		{258, 2, "\x02\x01"}, {0, 0, ""}, {0, 1, "\x00"}, {255, 1, "\xff"}, {1, 3, "\x01\x00\x00"}, {0, 8, "\x00\x00\x00\x00\x00\x00\x00\x00"},
		{0x0102030405060708, 8, "\x08\x07\x06\x05\x04\x03\x02\x01"}, {math.MaxUint64, 8, ff9[:8]}, {1<<56 - 1, 7, ff9[:7]},
	} {
		if b, e := Fixed(x.n, x.size); string(b) != x.want || e != api.OK {
			t.Errorf("%d, %d: %x %d", x.n, x.size, b, e)
		}
	}
	for size := range 8 {
		edge := uint64(1) << (8 * size)
		for _, n := range []uint64{edge, edge + 1, math.MaxUint64, 1 << 63} {
			if b, e := Fixed(n, size); len(b) != 0 || e != api.ErrBig {
				t.Errorf("%d, %d: %x %d", n, size, b, e)
			}
		}
		if b, e := Fixed(edge-1, size); len(b) != size || e != api.OK {
			t.Errorf("%d, %d: %x %d", edge-1, size, b, e)
		}
	}
	for _, size := range []int{-1, 9, 16, math.MinInt, math.MaxInt, 1 << 61, 1 << 32} {
		for _, n := range []uint64{0, math.MaxUint64} {
			if b, e := Fixed(n, size); len(b) != 0 || e != api.ErrArg {
				t.Errorf("%d, %d: %x %d", n, size, b, e)
			}
		}
	}
}

func TestWhole(t *testing.T) {
	for _, n := range edges() {
		for size := 0; size <= 8; size++ {
			b, e := Fixed(n, size)
			if e != api.OK {
				continue
			}
			if m, e := Whole(b); m != n || e != api.OK {
				t.Errorf("%d, %d: %d %d", n, size, m, e)
			}
		}
	}
	for b, want := range map[string]uint64{"": 0, "\x02\x01": 258, "\x00\x00\x00\x00\x00\x00\x00\x80": 1 << 63, "\xff": 255, "\x01\x00\x00": 1} {
		if n, e := Whole([]byte(b)); n != want || e != api.OK {
			t.Errorf("%x: %d %d", b, n, e)
		}
	}
	if n, e := Whole(nil); n != 0 || e != api.OK {
		t.Error(n, e)
	}
	for _, size := range []int{9, 10, 1000} {
		if n, e := Whole(make([]byte, size)); n != 0 || e != api.ErrArg {
			t.Error(size, n, e)
		}
		if n, e := Whole(bytes.Repeat([]byte{1}, size)); n != 0 || e != api.ErrArg {
			t.Error(size, n, e)
		}
	}
}

// TestBytesStay: what is handed in is as it was, its spare room too.
func TestBytesStay(t *testing.T) {
	for _, s := range []string{"", "\x05", "\x80\x01", "\x80\x00", "\x03abc", "\x03ab", ff9 + "\x01", ff9 + "\x02", "12345678"} {
		room := []byte(s + "behind it")
		b := room[:len(s)]
		Get(b)
		GetSigned(b)
		GetText(b, 9)
		GetText(b, 1)
		Whole(b)
		if string(room) != s+"behind it" {
			t.Errorf("%x: %x", s, room)
		}
	}
}

// TestNewMemory: an answer that is written over, to the end of its room, is seen in no other one.
func TestNewMemory(t *testing.T) {
	spoil := func(b []byte) {
		b = b[:cap(b)]
		for i := range b {
			b[i] ^= 0xA5
		}
	}
	makers := map[string]func() []byte{
		"Put":       func() []byte { return Put(300) },
		"Put 0":     func() []byte { return Put(0) },
		"PutSigned": func() []byte { return PutSigned(-300) },
		"PutText":   func() []byte { return PutText("abc") },
		"no text":   func() []byte { return PutText("") },
		"Fixed":     func() []byte { b, _ := Fixed(258, 4); return b },
	}
	for name, make := range makers {
		first, second := make(), make()
		want := string(second)
		spoil(first)
		if string(second) != want || string(make()) != want {
			t.Error(name)
		}
	}
	b := []byte("\x03abc")
	s, _, _ := GetText(b, 3)
	spoil(b)
	if s != "abc" {
		t.Errorf("%q", s)
	}
}

// TestAllBytes: whatever it is given, a decoder answers, and no more bytes than there are.
func TestAllBytes(t *testing.T) {
	state := uint64(1)
	for range 200000 {
		state = state*6364136223846793005 + 1442695040888963407
		b := make([]byte, state>>60)
		for i := range b {
			state = state*6364136223846793005 + 1442695040888963407
			b[i] = byte(state >> 56)
			if state>>33&3 > 0 {
				b[i] |= 0x80
			}
		}
		n, k, e := Get(b)
		if e == api.OK && !bytes.Equal(Put(n), b[:k]) || e != api.OK && (n != 0 || k != 0) {
			t.Fatalf("%x: %d %d %d", b, n, k, e)
		}
		signed, j, f := GetSigned(b)
		if f != e || j != k || e == api.OK && !bytes.Equal(PutSigned(signed), b[:k]) {
			t.Fatalf("%x: %d %d %d", b, signed, j, f)
		}
		s, j, f := GetText(b, 20)
		if f == api.OK && !bytes.Equal(PutText(s), b[:j]) || f != api.OK && (s != "" || j != 0) {
			t.Fatalf("%x: %q %d %d", b, s, j, f)
		}
	}
}
