package conv

import (
	"math"
	"math/big"
	"testing"

	"assart/api"
)

type oneCall struct {
	name          string
	kind, n, want int
}

func byOne(t *testing.T, f func(int, int) (int, api.Errno), calls []oneCall) {
	t.Helper()
	for _, x := range calls {
		if n, e := f(x.kind, x.n); n != x.want || e != api.OK {
			t.Errorf("%s(%d, %d) = %d, %d, not %d", x.name, x.kind, x.n, n, e, x.want)
		}
	}
}

type twoCall struct {
	name              string
	kind, n, by, want int
}

func byTwo(t *testing.T, f func(int, int, int) (int, api.Errno), calls []twoCall) {
	t.Helper()
	for _, x := range calls {
		if n, e := f(x.kind, x.n, x.by); n != x.want || e != api.OK {
			t.Errorf("%s(%d, %d, %d) = %d, %d, not %d", x.name, x.kind, x.n, x.by, n, e, x.want)
		}
	}
}

func TestBits(t *testing.T) {
	for kind, want := range []int{8, 16, 32, 64, 8, 16, 32, 64} {
		if b, signed, e := Bits(kind); b != want || signed != (kind < 4) || e != api.OK {
			t.Error(kind, b, signed, e)
		}
	}
}

func TestWrap(t *testing.T) {
	byOne(t, Wrap, []oneCall{
		{"Wrap", 0, 200, -56}, {"Wrap", 4, -1, 255}, {"Wrap", 7, -1, -1},
		{"Wrap", 0, 127, 127}, {"Wrap", 0, 128, -128}, {"Wrap", 0, -129, 127}, {"Wrap", 0, 256, 0},
		{"Wrap", 1, 1 << 15, -1 << 15}, {"Wrap", 1, 1<<15 - 1, 1<<15 - 1}, {"Wrap", 1, 1 << 16, 0},
		{"Wrap", 2, 1 << 31, -1 << 31}, {"Wrap", 2, 1<<31 - 1, 1<<31 - 1}, {"Wrap", 2, math.MinInt, 0},
		{"Wrap", 3, math.MinInt, math.MinInt}, {"Wrap", 3, math.MaxInt, math.MaxInt},
		{"Wrap", 4, 255, 255}, {"Wrap", 4, 256, 0}, {"Wrap", 4, -256, 0},
		{"Wrap", 5, -1, 1<<16 - 1}, {"Wrap", 5, 1 << 16, 0},
		{"Wrap", 6, -1, 1<<32 - 1}, {"Wrap", 6, 1 << 32, 0}, {"Wrap", 6, math.MaxInt, 1<<32 - 1},
		{"Wrap", 7, math.MinInt, math.MinInt}, {"Wrap", 7, math.MaxInt, math.MaxInt},
	})
}

func TestClamp(t *testing.T) {
	byOne(t, Clamp, []oneCall{
		{"Clamp", 0, 200, 127}, {"Clamp", 4, -1, 0},
		{"Clamp", 0, 127, 127}, {"Clamp", 0, 128, 127}, {"Clamp", 0, -128, -128}, {"Clamp", 0, -129, -128},
		{"Clamp", 1, 1 << 15, 1<<15 - 1}, {"Clamp", 1, math.MinInt, -1 << 15},
		{"Clamp", 2, math.MaxInt, 1<<31 - 1}, {"Clamp", 2, -1<<31 - 1, -1 << 31},
		{"Clamp", 3, math.MaxInt, math.MaxInt}, {"Clamp", 3, math.MinInt, math.MinInt}, {"Clamp", 3, -7, -7},
		{"Clamp", 4, 255, 255}, {"Clamp", 4, 256, 255}, {"Clamp", 4, math.MinInt, 0},
		{"Clamp", 5, 1 << 16, 1<<16 - 1}, {"Clamp", 5, -5, 0},
		{"Clamp", 6, math.MaxInt, 1<<32 - 1}, {"Clamp", 6, 1<<32 - 1, 1<<32 - 1}, {"Clamp", 6, -5, 0},
		{"Clamp", 7, math.MaxInt, math.MaxInt}, {"Clamp", 7, 0, 0}, {"Clamp", 7, -1, 0}, {"Clamp", 7, math.MinInt, 0},
	})
}

func TestLeft(t *testing.T) {
	byTwo(t, Left, []twoCall{
		{"Left", 4, 129, 1, 2}, {"Left", 0, 1, 7, -128}, {"Left", 3, 1, 64, 0},
		{"Left", 0, 1, 8, 0}, {"Left", 4, 1, 7, 128}, {"Left", 4, 1, 8, 0}, {"Left", 4, -1, 0, 255},
		{"Left", 2, 3, 31, -1 << 31}, {"Left", 6, 3, 31, 1 << 31},
		{"Left", 3, 1, 63, math.MinInt}, {"Left", 7, 1, 63, math.MinInt},
		{"Left", 7, -1, 64, 0}, {"Left", 7, -1, math.MaxInt, 0}, {"Left", 0, -1, math.MaxInt, 0},
		{"Left", 3, -1, 1 << 32, 0}, {"Left", 3, -1, 256, 0},
	})
}

func TestRight(t *testing.T) {
	byTwo(t, Right, []twoCall{
		{"Right", 0, -1, 100, -1}, {"Right", 4, -1, 4, 15},
		{"Right", 0, 200, 1, -28}, {"Right", 0, -3, 1, -2}, {"Right", 0, 255, 7, -1}, {"Right", 0, 127, 7, 0},
		{"Right", 4, 256, 0, 0}, {"Right", 4, 511, 7, 1}, {"Right", 5, -1, 15, 1}, {"Right", 6, -1, 31, 1}, {"Right", 6, -1, 32, 0},
		{"Right", 3, math.MinInt, 63, -1}, {"Right", 3, math.MinInt, math.MaxInt, -1}, {"Right", 3, math.MaxInt, 64, 0},
		{"Right", 7, -1, 63, 1}, {"Right", 7, -1, 1, math.MaxInt}, {"Right", 7, -1, 0, -1}, {"Right", 7, -1, 64, 0}, {"Right", 7, -1, math.MaxInt, 0},
		{"Right", 3, -1, 256, -1}, {"Right", 7, -1, 1 << 32, 0},
	})
}

func TestTurn(t *testing.T) {
	byTwo(t, Turn, []twoCall{
		{"Turn", 4, 129, 1, 3}, {"Turn", 4, 1, -1, 128},
		{"Turn", 0, 1, -1, -128}, {"Turn", 0, -128, 1, 1}, {"Turn", 4, 129, 8, 129}, {"Turn", 4, 129, 0, 129},
		{"Turn", 4, 129, 9, 3}, {"Turn", 4, 1, -9, 128}, {"Turn", 4, 257, 1, 2},
		{"Turn", 3, 1, -1, math.MinInt}, {"Turn", 3, math.MinInt, 1, 1}, {"Turn", 7, math.MinInt, 65, 1},
		{"Turn", 3, 1, math.MaxInt, math.MinInt}, {"Turn", 3, 1, math.MinInt, 1},
		{"Turn", 6, 1, math.MaxInt, 1 << 31}, {"Turn", 6, 5, math.MinInt, 5}, {"Turn", 4, 1, math.MinInt + 1, 2},
	})
}

func TestSwap(t *testing.T) {
	byOne(t, Swap, []oneCall{
		{"Swap", 5, 258, 513}, {"Swap", 1, 128, -32768}, {"Swap", 0, 200, -56}, {"Swap", 4, -1, 255}, {"Swap", 4, 258, 2},
		{"Swap", 6, 0x01020304, 0x04030201}, {"Swap", 2, 0x010203F4, -0x0BFCFDFF}, {"Swap", 6, 0x55_01020304, 0x04030201},
		{"Swap", 3, 0x0102030405060708, 0x0807060504030201}, {"Swap", 7, 128, math.MinInt}, {"Swap", 3, math.MinInt, 128},
	})
}

func TestGet(t *testing.T) {
	all := uint64(math.MaxUint64)
	for _, x := range []struct {
		n         uint64
		at, width int
		want      uint64
	}{
		{240, 4, 4, 15}, {240, 3, 4, 14}, {240, 0, 64, 240}, {all, 0, 64, all}, {all, 64, 0, 0}, {all, 0, 0, 0},
		{all, 63, 1, 1}, {1 << 63, 63, 1, 1}, {1 << 63, 0, 63, 0}, {all, 1, 63, all >> 1}, {0x1234, 4, 8, 0x23},
	} {
		if n, e := Get(x.n, x.at, x.width); n != x.want || e != api.OK {
			t.Error(x, n, e)
		}
	}
}

func TestSet(t *testing.T) {
	all := uint64(math.MaxUint64)
	for _, x := range []struct {
		n         uint64
		at, width int
		to, want  uint64
	}{
		{0, 4, 4, 15, 240}, {all, 4, 4, 0, all - 240}, {all, 4, 4, 5, all - 240 + 80}, {all, 0, 64, 7, 7}, {7, 0, 64, all, all},
		{all, 64, 0, 0, all}, {all, 0, 0, 0, all}, {0, 63, 1, 1, 1 << 63}, {all, 63, 1, 0, all >> 1}, {0x1234, 4, 8, 0xAB, 0x1AB4},
	} {
		if n, e := Set(x.n, x.at, x.width, x.to); n != x.want || e != api.OK {
			t.Error(x, n, e)
		}
	}
	for _, x := range []struct {
		at, width int
		to        uint64
	}{{0, 2, 4}, {0, 0, 1}, {64, 0, 1}, {1, 63, 1 << 63}, {5, 8, 256}, {0, 1, all}} {
		if n, e := Set(all, x.at, x.width, x.to); n != 0 || e != api.ErrBig {
			t.Error(x, n, e)
		}
	}
}

func TestNoSuchKind(t *testing.T) {
	for _, kind := range []int{-1, 8, 9, -8, 256, 1 << 32, math.MinInt, math.MaxInt} {
		if b, signed, e := Bits(kind); b != 0 || signed || e != api.ErrArg {
			t.Error("Bits", kind, b, signed, e)
		}
		for i, f := range []func(int, int) (int, api.Errno){Wrap, Clamp, Swap} {
			if n, e := f(kind, 77); n != 0 || e != api.ErrArg {
				t.Error("one", i, kind, n, e)
			}
		}
		for i, f := range []func(int, int, int) (int, api.Errno){Left, Right, Turn} {
			for _, by := range []int{0, 1, -1, math.MinInt, math.MaxInt} {
				if n, e := f(kind, 77, by); n != 0 || e != api.ErrArg {
					t.Error("two", i, kind, by, n, e)
				}
			}
		}
	}
}

func TestByBelowNought(t *testing.T) {
	for kind := range 8 {
		for _, by := range []int{-1, -8, -64, math.MinInt} {
			if n, e := Left(kind, 77, by); n != 0 || e != api.ErrArg {
				t.Error("Left", kind, by, n, e)
			}
			if n, e := Right(kind, 77, by); n != 0 || e != api.ErrArg {
				t.Error("Right", kind, by, n, e)
			}
		}
	}
}

func TestBitsOutside(t *testing.T) {
	for _, x := range [][2]int{
		{-1, 0}, {0, -1}, {-1, 2}, {2, -1}, {0, 65}, {65, 0}, {1, 64}, {64, 1}, {60, 5}, {65, -1}, {-1, 65},
		{math.MaxInt, 1}, {1, math.MaxInt}, {math.MaxInt, math.MaxInt}, {math.MinInt, math.MinInt}, {math.MinInt, 0}, {0, math.MinInt},
		{math.MaxInt, math.MinInt}, {math.MinInt, math.MaxInt},
	} {
		if n, e := Get(math.MaxUint64, x[0], x[1]); n != 0 || e != api.ErrArg {
			t.Error("Get", x, n, e)
		}
		// A number too great for these bits is looked for behind the place.
		for _, to := range []uint64{0, 1, math.MaxUint64} {
			if n, e := Set(math.MaxUint64, x[0], x[1], to); n != 0 || e != api.ErrArg {
				t.Error("Set", x, to, n, e)
			}
		}
	}
}

// The model has a number's bits as a list, the lowest first, and no integer of few bits.

func kindOf(kind int) (int, bool) {
	return []int{8, 16, 32, 64}[kind%4], kind < 4
}

func bitsOf(n, count int) []uint {
	whole := new(big.Int).Mod(big.NewInt(int64(n)), new(big.Int).Lsh(big.NewInt(1), uint(count)))
	bits := make([]uint, count)
	for i := range bits {
		bits[i] = whole.Bit(i)
	}
	return bits
}

func valueOf(bits []uint, signed bool) *big.Int {
	n := new(big.Int)
	for i, bit := range bits {
		n.SetBit(n, i, bit)
	}
	if signed && bits[len(bits)-1] == 1 {
		n.Sub(n, new(big.Int).Lsh(big.NewInt(1), uint(len(bits))))
	}
	return n
}

func told(n *big.Int) int {
	if !n.IsInt64() {
		n = new(big.Int).Sub(n, new(big.Int).Lsh(big.NewInt(1), 64))
	}
	return int(n.Int64())
}

func modelClamp(kind, n int) int {
	count, signed := kindOf(kind)
	low, high := big.NewInt(0), new(big.Int).Lsh(big.NewInt(1), uint(count))
	if signed {
		high.Rsh(high, 1)
		low.Neg(high)
	}
	high.Sub(high, big.NewInt(1))
	at := big.NewInt(int64(n))
	if at.Cmp(low) < 0 {
		return told(low)
	}
	if at.Cmp(high) > 0 {
		return told(high)
	}
	return n
}

func modelLeft(kind, n, by int) int {
	count, signed := kindOf(kind)
	moved := make([]uint, count)
	for i, bit := range bitsOf(n, count) {
		if by < count && i+by < count {
			moved[i+by] = bit
		}
	}
	return told(valueOf(moved, signed))
}

func modelRight(kind, n, by int) int {
	count, signed := kindOf(kind)
	divisor := new(big.Int).Lsh(big.NewInt(1), uint(min(by, 200)))
	// Div rounds down, as the divisor is above 0.
	return told(new(big.Int).Div(valueOf(bitsOf(n, count), signed), divisor))
}

func modelTurn(kind, n, by int) int {
	count, signed := kindOf(kind)
	step := int(new(big.Int).Mod(big.NewInt(int64(by)), big.NewInt(int64(count))).Int64())
	moved := make([]uint, count)
	for i, bit := range bitsOf(n, count) {
		moved[(i+step)%count] = bit
	}
	return told(valueOf(moved, signed))
}

func modelSwap(kind, n int) int {
	count, signed := kindOf(kind)
	moved := make([]uint, count)
	for i, bit := range bitsOf(n, count) {
		moved[count-8-i/8*8+i%8] = bit
	}
	return told(valueOf(moved, signed))
}

func oddNumbers() []int {
	all := []int{math.MaxInt, math.MinInt, 0x0123456789ABCDEF, -0x0123456789ABCDEF, 0x5A5A5A5A5A5A5A5A}
	for at := range 63 {
		all = append(all, 1<<at, 1<<at-1, 1<<at+1, -1<<at, -1<<at-1, -1<<at+1)
	}
	return all
}

func TestOneAsTheModel(t *testing.T) {
	for kind := range 8 {
		count, signed := kindOf(kind)
		for _, n := range oddNumbers() {
			byOne(t, Wrap, []oneCall{{"Wrap", kind, n, told(valueOf(bitsOf(n, count), signed))}})
			byOne(t, Clamp, []oneCall{{"Clamp", kind, n, modelClamp(kind, n)}})
			byOne(t, Swap, []oneCall{{"Swap", kind, n, modelSwap(kind, n)}})
		}
	}
}

func TestTwoAsTheModel(t *testing.T) {
	moves := []int{0, 1, 2, 3, 4, 5, 7, 8, 9, 15, 16, 17, 31, 32, 33, 62, 63, 64, 65, 127, 128, 255, 256, 257, 1 << 16, 1 << 31, 1 << 32, 1<<32 + 1, 1 << 62, math.MaxInt}
	numbers := oddNumbers()
	for kind := range 8 {
		for i := 0; i < len(numbers); i += 3 {
			for _, by := range moves {
				n := numbers[i]
				byTwo(t, Left, []twoCall{{"Left", kind, n, by, modelLeft(kind, n, by)}})
				byTwo(t, Right, []twoCall{{"Right", kind, n, by, modelRight(kind, n, by)}})
				byTwo(t, Turn, []twoCall{{"Turn", kind, n, by, modelTurn(kind, n, by)}, {"Turn", kind, n, -by, modelTurn(kind, n, -by)}})
			}
			byTwo(t, Turn, []twoCall{{"Turn", kind, numbers[i], math.MinInt, modelTurn(kind, numbers[i], math.MinInt)}})
		}
	}
}

func TestPiecesAsTheModel(t *testing.T) {
	for _, n := range []uint64{0, 1, math.MaxUint64, 0x0123456789ABCDEF, 1 << 63} {
		whole := new(big.Int).SetUint64(n)
		for at := 0; at <= 64; at++ {
			for width := 0; at+width <= 64; width++ {
				edge := new(big.Int).Lsh(big.NewInt(1), uint(width))
				piece := new(big.Int).Mod(new(big.Int).Rsh(whole, uint(at)), edge)
				if got, e := Get(n, at, width); got != piece.Uint64() || e != api.OK {
					t.Fatal("Get", n, at, width, got, e)
				}
				to := new(big.Int).Sub(edge, big.NewInt(1))
				for _, to := range []*big.Int{to, big.NewInt(0), new(big.Int).Rsh(to, 1)} {
					want := new(big.Int).Lsh(new(big.Int).Sub(to, piece), uint(at))
					want.Add(want, whole)
					if got, e := Set(n, at, width, to.Uint64()); got != want.Uint64() || e != api.OK {
						t.Fatal("Set", n, at, width, to, got, e)
					}
				}
				if width == 64 {
					continue
				}
				if got, e := Set(n, at, width, edge.Uint64()); got != 0 || e != api.ErrBig {
					t.Fatal("Set", n, at, width, edge, got, e)
				}
			}
		}
	}
}
