package crc

import (
	"hash/crc32"
	"math"
	"math/bits"
	"strings"
	"testing"
)

// drawn answers numbers that look at random and are the same each time.
type drawn uint64

func (d *drawn) next() uint32 {
	*d = *d*6364136223846793005 + 1442695040888963407
	return uint32(*d >> 32)
}

func (d *drawn) bytes(count int) []byte {
	b := make([]byte, count)
	for i := range b {
		b[i] = byte(d.next() >> 24)
	}
	return b
}

var oddSums = []uint32{0, 1, 2, 0x80000000, 0x7FFFFFFF, 0xFFFFFFFF, 0x82F63B78, 0xE3069283, 0x12345678}

// moved is the chapter's own way for Join: bit for bit.
func moved(a uint32, count int) uint32 {
	for range 8 * count {
		fell := a & 1
		a >>= 1
		if fell == 1 {
			a ^= 0x82F63B78
		}
	}
	return a
}

func TestSum(t *testing.T) {
	for s, want := range map[string]uint32{
		"": 0, "123456789": 0xE3069283, "a": 0xC1D04330, "\x00": 0x527D5351,
		strings.Repeat("\x00", 32): 0x8A9136AA, strings.Repeat("\xff", 32): 0x62A8AB43,
	} {
		if sum := Sum([]byte(s)); sum != want {
			t.Errorf("%x: %08X", s, sum)
		}
	}
	if Sum(nil) != 0 {
		t.Error("nil")
	}
	table := crc32.MakeTable(crc32.Castagnoli)
	d := drawn(1)
	for size := range 300 {
		if b := d.bytes(size); Sum(b) != crc32.Checksum(b, table) {
			t.Errorf("%x: %08X", b, Sum(b))
		}
	}
	for c := range 256 {
		if b := []byte{byte(c)}; Sum(b) != crc32.Checksum(b, table) {
			t.Errorf("%x: %08X", b, Sum(b))
		}
	}
}

func TestMore(t *testing.T) {
	table := crc32.MakeTable(crc32.Castagnoli)
	d := drawn(2)
	for size := range 40 {
		b := d.bytes(size)
		for cut := range size + 1 {
			if More(Sum(b[:cut]), b[cut:]) != Sum(b) {
				t.Errorf("%x, %d", b, cut)
			}
		}
		for _, sum := range append(oddSums, d.next()) {
			if got := More(sum, b); got != crc32.Update(sum, table, b) {
				t.Errorf("%08X, %x: %08X", sum, b, got)
			}
		}
	}
	for _, sum := range oddSums {
		if More(sum, nil) != sum {
			t.Errorf("%08X", sum)
		}
	}
}

func TestJoin(t *testing.T) {
	if got := Join(Sum([]byte("12345")), Sum([]byte("6789")), 4); got != 0xE3069283 {
		t.Errorf("%08X", got)
	}
	d := drawn(3)
	for size := range 200 {
		b := d.bytes(size)
		for _, a := range append(oddSums, d.next()) {
			if got := Join(a, Sum(b), size); got != More(a, b) {
				t.Errorf("%08X, %x: %08X", a, b, got)
			}
		}
	}
	big := d.bytes(1 << 17)
	for _, size := range []int{1<<17 - 1, 1 << 17, 65535, 65536, 65537} {
		if got := Join(5, Sum(big[:size]), size); got != More(5, big[:size]) {
			t.Errorf("%d: %08X", size, got)
		}
	}
}

// TestJoinOfAnySum: also of those that no so many bytes have.
func TestJoinOfAnySum(t *testing.T) {
	for count := range 70 {
		for _, a := range oddSums {
			for _, b := range oddSums {
				if got, want := Join(a, b, count), moved(a, count)^b; got != want {
					t.Errorf("%08X, %08X, %d: %08X, not %08X", a, b, count, got, want)
				}
			}
		}
	}
}

func TestJoinBelowNought(t *testing.T) {
	for _, count := range []int{0, -1, -8, math.MinInt, math.MinInt + 1} {
		for _, a := range oddSums {
			if got := Join(a, 77, count); got != a^77 {
				t.Errorf("%08X, %d: %08X", a, count, got)
			}
		}
	}
}

// TestJoinOfGreatCounts: 2^31 - 1 moves bring each sum back that comes back at
// all, so that a great count is as good as what is left of it by that.
func TestJoinOfGreatCounts(t *testing.T) {
	const round = 1<<31 - 1
	for _, count := range []int{round, round + 1, 2*round + 5, 1 << 32, 1 << 40, 1<<60 + 12345, 1 << 61, 1 << 62, math.MaxInt, math.MaxInt - 1} {
		for _, a := range oddSums {
			want := Join(a, 9, count%round)
			if got := Join(a, 9, count); got != want {
				t.Errorf("%08X, %d: %08X, not %08X", a, count, got, want)
			}
		}
	}
	if Join(0x12345678, 9, math.MaxInt) != moved(0x12345678, 1)^9 {
		t.Error("the greatest count is one round after another, and one byte")
	}
	for _, count := range []int{100000, 1<<20 + 3} {
		if Join(0x12345678, 9, count) != moved(0x12345678, count)^9 {
			t.Error(count)
		}
	}
}

func TestMask(t *testing.T) {
	for _, x := range []struct{ sum, mask uint32 }{
		{0, 0xA282EAD8}, {1, 0xA284EAD8}, {0x8000, 0xA282EAD9}, {0xFFFFFFFF, 0xA282EAD7}, {0xE3069283, 0xC78AB0E5},
	} {
		if Mask(x.sum) != x.mask || Unmask(x.mask) != x.sum {
			t.Errorf("%08X: %08X, %08X", x.sum, Mask(x.sum), Unmask(x.mask))
		}
	}
	d := drawn(4)
	for range 10000 {
		sum := d.next()
		if Mask(sum) != bits.RotateLeft32(sum, -15)+0xA282EAD8 || Unmask(Mask(sum)) != sum || Mask(Unmask(sum)) != sum {
			t.Fatalf("%08X: %08X", sum, Mask(sum))
		}
	}
}

// flip turns the bits of b, from the place on, where pattern's are 1.
func flip(b []byte, place int, pattern uint32) {
	for i := range 32 {
		if pattern>>i&1 == 1 {
			b[(place+i)/8] ^= 1 << ((place + i) % 8)
		}
	}
}

// TestSpoiltBits: other bits, all within 32 one behind the other, give another sum.
func TestSpoiltBits(t *testing.T) {
	d := drawn(5)
	b := d.bytes(24)
	sum := Sum(b)
	check := func(place int, pattern uint32) {
		flip(b, place, pattern)
		if Sum(b) == sum {
			t.Fatalf("%d, %08X", place, pattern)
		}
		flip(b, place, pattern)
	}
	for place := range 8*len(b) - 31 {
		for pattern := uint32(1); pattern < 1<<9; pattern++ {
			check(place, pattern)
		}
		for at := range 32 {
			check(place, 1<<at)
			check(place, 1|1<<at)
			check(place, math.MaxUint32>>at)
		}
		for range 300 {
			check(place, d.next()|1)
		}
		// The feedback's own bits are the likeliest to go unseen.
		check(place, 0x82F63B78)
		check(place, bits.Reverse32(0x82F63B78))
	}
}

// TestBytesStay: what is handed in is as it was, its spare room too.
func TestBytesStay(t *testing.T) {
	room := []byte("some bytes and others")
	b := room[:10]
	Sum(b)
	More(77, b)
	if string(room) != "some bytes and others" {
		t.Errorf("%q", room)
	}
}
