package bloom

import (
	"bytes"
	"math"
	"math/big"
	"math/bits"
	"slices"
	"strconv"
	"strings"
	"testing"

	"assart/api"
)

// keysOf answers so many keys, each another one, of 0 bytes to some twenty.
func keysOf(name string, count int) []string {
	keys := make([]string, count)
	for i := range keys {
		keys[i] = strings.Repeat(name, i%5) + strconv.Itoa(i*i) + string([]byte{byte(i), byte(i * 77)})
	}
	if count > 3 {
		keys[3] = ""
	}
	return keys
}

func TestHash(t *testing.T) {
	for _, x := range []struct {
		key  string
		want uint32
	}{
		{"", 0xBC9F1D34}, {"\x62", 0xEF1345C4}, {"\xc3\x97", 0x5B663814}, {"\xe2\x99\xa5", 0x323C078F}, {"\xe1\x80\xb9\x32", 0xED21633A},
	} {
		if h := Hash(x.key); h != x.want {
			t.Errorf("%x: %x", x.key, h)
		}
	}
}

// The model reckons in numbers without an end, and cuts them to 32 bits by a remainder.

func cut(n *big.Int) *big.Int {
	return n.Mod(n, big.NewInt(1<<32))
}

// modelRound raises h by the number of some bytes, multiplies it, and mixes it with itself, moved down.
func modelRound(h *big.Int, part string, down uint) {
	for i, c := range []byte(part) {
		h.Add(h, new(big.Int).Lsh(big.NewInt(int64(c)), uint(8*i)))
	}
	cut(h.Mul(h, big.NewInt(0xC6A4A793)))
	h.Xor(h, new(big.Int).Rsh(h, down))
}

func modelHash(key string) *big.Int {
	h := cut(new(big.Int).Mul(big.NewInt(int64(len(key))), big.NewInt(0xC6A4A793)))
	h.Xor(h, big.NewInt(0xBC9F1D34))
	at := 0
	for ; at+4 <= len(key); at += 4 {
		modelRound(h, key[at:at+4], 16)
	}
	if at < len(key) {
		modelRound(h, key[at:], 24)
	}
	return h
}

// modelProbes answers a key's bits, in a filter of size bits.
func modelProbes(key string, count, size int) []int {
	h := modelHash(key)
	d := big.NewInt(int64(bits.RotateLeft32(uint32(h.Uint64()), -17)))
	probes := make([]int, count)
	for i := range probes {
		n := new(big.Int).Mul(d, big.NewInt(int64(i)))
		probes[i] = int(cut(n.Add(n, h)).Int64()) % size
	}
	return probes
}

func modelBuild(keys []string, each int) []byte {
	count := int(math.Floor(float64(each*69) / 100))
	count = max(1, min(30, count))
	size := max(64, len(keys)*each)
	for size%8 != 0 {
		size++
	}
	isSet := make([]byte, size)
	for _, key := range keys {
		for _, n := range modelProbes(key, count, size) {
			isSet[n] = 1
		}
	}
	var filter []byte
	for eight := range slices.Chunk(isSet, 8) {
		c := byte(0)
		for i, bit := range eight {
			c += bit << i
		}
		filter = append(filter, c)
	}
	return append(filter, byte(count))
}

func TestHashAsTheModel(t *testing.T) {
	long := strings.Repeat("\xff\x80\x00\x01\x7fabc", 1000)
	for size := range 200 {
		for _, key := range []string{long[:size], long[size : 2*size], strings.Repeat("\x00", size), strings.Repeat("\xff", size)} {
			if h := Hash(key); uint64(h) != modelHash(key).Uint64() {
				t.Errorf("%x: %x", key, h)
			}
		}
	}
	if h := Hash(long); uint64(h) != modelHash(long).Uint64() {
		t.Errorf("%x", h)
	}
}

func TestBuildOfNone(t *testing.T) {
	for _, x := range []struct{ each, count int }{{1, 1}, {2, 1}, {3, 2}, {4, 2}, {5, 3}, {10, 6}, {42, 28}, {43, 29}, {44, 30}, {45, 30}, {63, 30}, {64, 30}} {
		for _, none := range [][]string{nil, {}} {
			f, e := Build(none, x.each)
			if want := append(make([]byte, 8), byte(x.count)); !bytes.Equal(f, want) || e != api.OK {
				t.Error(x, f, e)
			}
			for _, key := range keysOf("x", 100) {
				if May(f, key) {
					t.Error(x, key)
				}
			}
		}
	}
}

func TestBuildOfOne(t *testing.T) {
	// The hash of no bytes is .. 34 (base 16), of which 64 bits leave 52.
	if f, e := Build([]string{""}, 1); string(f) != "\x00\x00\x00\x00\x00\x00\x10\x00\x01" || e != api.OK {
		t.Errorf("%x %d", f, e)
	}
	// That of the byte 62 (base 16) is .. C4, of which they leave 4.
	if f, e := Build([]string{"\x62"}, 2); string(f) != "\x10\x00\x00\x00\x00\x00\x00\x00\x01" || e != api.OK {
		t.Errorf("%x %d", f, e)
	}
}

func TestBuildAsTheModel(t *testing.T) {
	for each := 1; each <= 64; each++ {
		for _, count := range []int{1, 2, 3, 7, 8, 9, 63, 64, 65, 200} {
			keys := keysOf("key", count)
			if f, e := Build(keys, each); !bytes.Equal(f, modelBuild(keys, each)) || e != api.OK {
				t.Fatalf("%d, %d: %x %d", each, count, f, e)
			}
		}
	}
}

func TestBuildRefuses(t *testing.T) {
	tooMany := make([]string, 100001)
	for _, each := range []int{0, -1, 65, 66, 256, 1<<32 + 1, math.MinInt, math.MaxInt} {
		for _, keys := range [][]string{nil, {"a"}, tooMany} {
			if f, e := Build(keys, each); len(f) != 0 || e != api.ErrArg {
				t.Error(each, len(keys), len(f), e)
			}
		}
	}
	for _, each := range []int{1, 10, 64} {
		if f, e := Build(tooMany, each); len(f) != 0 || e != api.ErrBig {
			t.Error(each, len(f), e)
		}
		if f, e := Build(tooMany[1:], each); len(f) != 100000*each/8+1 || e != api.OK {
			t.Error(each, len(f), e)
		}
	}
}

func TestMaySaysYesOfEachKey(t *testing.T) {
	for _, count := range []int{1, 10, 1000, 100000} {
		for _, each := range []int{1, 5, 10, 64} {
			keys := keysOf("there", count)
			f, _ := Build(keys, each)
			for _, key := range keys {
				if !May(f, key) {
					t.Fatalf("%d, %d: %q", count, each, key)
				}
			}
		}
	}
}

// TestMayAsTheModel: a filter of any bits, with any count of probes.
func TestMayAsTheModel(t *testing.T) {
	var said [2]int
	for size := 1; size <= 20; size++ {
		for count := 1; count <= 30; count++ {
			f := make([]byte, size+1)
			for i := range size {
				f[i] = ^byte(1<<(i*count%8)) | byte(size<<4)
			}
			f[size] = byte(count)
			for _, key := range keysOf("any", 40) {
				want, at := true, 0
				for _, n := range modelProbes(key, count, 8*size) {
					want = want && f[n/8]>>(n%8)&1 == 1
				}
				if want {
					at = 1
				}
				said[at]++
				if May(f, key) != want {
					t.Fatalf("%x, %q", f, key)
				}
			}
		}
	}
	if said[0] < 1000 || said[1] < 1000 {
		t.Error("nearly all said one thing:", said)
	}
}

// TestProbeOfManyBits: where a filter has more bits than 32 of them count, the sum is of 32 all the same.
func TestProbeOfManyBits(t *testing.T) {
	for _, key := range keysOf("far", 40) {
		for _, size := range []int{1<<31 + 8, 1<<32 - 8, 1 << 32, 1<<32 + 8, 1 << 40} {
			for i, want := range modelProbes(key, 30, size) {
				if n := probe(Hash(key), i, size); n != want {
					t.Fatal(key, size, i, n, want)
				}
			}
		}
	}
}

func TestMaySaysNoOfMost(t *testing.T) {
	f, _ := Build(keysOf("there", 1000), 10)
	no := 0
	for _, key := range keysOf("nowhere", 1000) {
		if !May(f, "not "+key) {
			no++
		}
	}
	if no < 950 {
		t.Error(no)
	}
}

// notInForm answers what is no filter.
func notInForm() [][]byte {
	return [][]byte{nil, {}, {0}, {1}, {30}, {255}, {0, 0}, {255, 0}, {0, 31}, {0, 255}, {0, 32}, {0, 128}, {0, 0, 0}, append(make([]byte, 8), 31), append(make([]byte, 8), 0)}
}

func TestMayOfNoFilter(t *testing.T) {
	for _, f := range notInForm() {
		for _, key := range []string{"", "a", "hello"} {
			if !May(f, key) {
				t.Error(f, key)
			}
		}
	}
	for _, f := range [][]byte{{0, 1}, {0, 30}, {0, 0, 1}} {
		if May(f, "a") {
			t.Error(f)
		}
	}
	for _, f := range [][]byte{{255, 1}, {255, 30}} {
		if !May(f, "a") {
			t.Error(f)
		}
	}
}

func TestMerge(t *testing.T) {
	for _, each := range []int{1, 7, 10, 64} {
		for _, count := range []int{0, 1, 5, 300} {
			a, b := keysOf("one", count), keysOf("two", count)
			f, _ := Build(a, each)
			g, _ := Build(b, each)
			m, e := Merge(f, g)
			if e != api.OK || len(m) != len(f) || m[len(m)-1] != f[len(f)-1] {
				t.Fatal(each, count, m, e)
			}
			for i, c := range m[:len(m)-1] {
				if c != f[i]|g[i] {
					t.Fatal(each, count, i)
				}
			}
			for _, key := range append(a, b...) {
				if !May(m, key) {
					t.Fatalf("%d, %d: %q", each, count, key)
				}
			}
			if again, e := Merge(g, f); !bytes.Equal(again, m) || e != api.OK {
				t.Error(each, count, e)
			}
		}
	}
	if m, e := Merge([]byte{0x0f, 0x80, 5}, []byte{0x31, 0x01, 5}); !bytes.Equal(m, []byte{0x3f, 0x81, 5}) || e != api.OK {
		t.Error(m, e)
	}
	for _, f := range [][]byte{{7, 1}, {7, 30}} {
		if m, e := Merge(f, f); !bytes.Equal(m, f) || e != api.OK {
			t.Error(m, e)
		}
	}
}

func TestMergeRefuses(t *testing.T) {
	for _, bad := range notInForm() {
		for _, f := range append(notInForm(), []byte{7, 1}, []byte{7, 7, 30}) {
			if m, e := Merge(bad, f); len(m) != 0 || e != api.ErrForm {
				t.Error(bad, f, m, e)
			}
			if m, e := Merge(f, bad); len(m) != 0 || e != api.ErrForm {
				t.Error(f, bad, m, e)
			}
		}
	}
	for _, x := range [][2][]byte{{{7, 1}, {7, 2}}, {{7, 1}, {7, 7, 1}}, {{7, 1}, {7, 1, 2}}, {{0, 0, 0, 30}, {0, 0, 0, 29}}, {append(make([]byte, 8), 6), append(make([]byte, 9), 6)}} {
		for _, y := range [][2][]byte{x, {x[1], x[0]}} {
			if m, e := Merge(y[0], y[1]); len(m) != 0 || e != api.ErrArg {
				t.Error(y, m, e)
			}
		}
	}
}

// TestOrderAndHowOften: neither changes a bit, where the count is alike; the count does.
func TestOrderAndHowOften(t *testing.T) {
	keys := keysOf("key", 50)
	f, _ := Build(keys, 10)
	turned := slices.Clone(keys)
	slices.Reverse(turned)
	if g, _ := Build(turned, 10); !bytes.Equal(f, g) {
		t.Error("another order")
	}
	once, _ := Build([]string{"a", "b", "b", "b", "b", "b", "b", "b", "b", "b"}, 10)
	often, _ := Build([]string{"a", "a", "a", "a", "a", "b", "b", "a", "a", "a"}, 10)
	if !bytes.Equal(once, often) {
		t.Error("how often")
	}
	if few, _ := Build([]string{"a", "b"}, 10); len(few) != 9 || len(once) != 14 {
		t.Error("the count", len(few), len(once))
	}
	for _, x := range [][3]int{{6, 10, 8}, {7, 10, 9}, {8, 8, 8}, {9, 8, 9}, {64, 1, 8}, {65, 1, 9}, {72, 1, 9}, {73, 1, 10}, {1, 64, 8}, {2, 64, 16}} {
		if g, _ := Build(slices.Repeat([]string{"a"}, x[0]), x[1]); len(g) != x[2]+1 {
			t.Error(x, len(g))
		}
	}
}

// TestArgumentsStay: what is handed in is as it was, its spare room too.
func TestArgumentsStay(t *testing.T) {
	room := []string{"b", "a", "b", "behind", "it"}
	Build(room[:3], 10)
	if !slices.Equal(room, []string{"b", "a", "b", "behind", "it"}) {
		t.Error(room)
	}
	for _, s := range []string{"", "\x01", "\x07\x01", "\x07\x00", "\x01\x02\x03\x04\x05\x06\x07\x08\x06"} {
		first, second := []byte(s+"behind it"), []byte(strings.Repeat("\xf0", max(len(s)-1, 0))+"\x06"+"behind it")
		a, b := first[:len(s)], second[:len(second)-len("behind it")]
		held := string(second)
		Merge(a, b)
		Merge(b, a)
		May(a, "a")
		May(b, "a")
		if string(first) != s+"behind it" || string(second) != held {
			t.Errorf("%x: %x %x", s, first, second)
		}
	}
}

// TestNewMemory: an answer that is written over, to the end of its room, is seen in nothing else.
func TestNewMemory(t *testing.T) {
	spoil := func(b []byte) {
		b = b[:cap(b)]
		for i := range b {
			b[i] ^= 0xA5
		}
	}
	f, _ := Build([]string{"a"}, 10)
	g, _ := Build([]string{"a"}, 10)
	want := string(g)
	spoil(f)
	if again, _ := Build([]string{"a"}, 10); string(g) != want || string(again) != want {
		t.Error("Build")
	}
	first, second := []byte("\x01\x02\x06 room"), []byte("\x01\x02\x06 room")
	m, _ := Merge(first[:3], second[:3])
	again, _ := Merge(first[:3], first[:3])
	spoil(m)
	if string(first) != "\x01\x02\x06 room" || string(second) != "\x01\x02\x06 room" || string(again) != "\x01\x02\x06" {
		t.Error("Merge", first, second, again)
	}
}
