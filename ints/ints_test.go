package ints

import (
	"math"
	"math/big"
	"testing"

	"tallboy/api"
)

// wrongWidths are those that no number has.
var wrongWidths = []int{0, -1, -8, -63, -64, -65, 65, 66, 128, math.MaxInt32, math.MinInt32, math.MaxInt, math.MinInt}

// wrongSamples are numbers for widths that are none: a width is refused ahead of what a number is.
var wrongSamples = []int64{0, 1, -1, 127, -128, math.MaxInt64, math.MinInt64}

// power is 2^n, from big numbers, that have no end.
func power(n int) *big.Int { return new(big.Int).Lsh(big.NewInt(1), uint(n)) }

// modulo is v modulo 2^n, from 0 on.
func modulo(v *big.Int, n int) *big.Int { return new(big.Int).Mod(v, power(n)) }

func unsigned(v uint64) *big.Int { return new(big.Int).SetUint64(v) }

// patterns are numbers of 64 bits: those at the ends of what each count of bits
// holds, those just beyond, and some whose bits have no order.
func patterns() []uint64 {
	list := []uint64{0, 1, 2, 3, 0xAAAAAAAAAAAAAAAA, 0x5555555555555555, 0x0123456789ABCDEF, 0xFEDCBA9876543210}
	for n := 1; n <= 64; n++ {
		end := uint64(1) << (n - 1)
		list = append(list, end-1, end, end+1, -end, -end-1, -end+1)
	}
	v := uint64(88172645463325252)
	for range 64 {
		v ^= v << 13
		v ^= v >> 7
		v ^= v << 17
		list = append(list, v)
	}
	return list
}

// turns are numbers of places: near 0, near the multiples of 32 and of 64, and at the ends of the type.
func turns() []int {
	list := []int{math.MaxInt, math.MaxInt - 1, math.MaxInt - 31, math.MinInt, math.MinInt + 1, math.MinInt + 31,
		math.MaxInt32, math.MinInt32, 1 << 32, 1<<32 + 5, -(1 << 32), -(1 << 32) - 5}
	for by := -130; by <= 130; by++ {
		list = append(list, by)
	}
	return list
}

// Promise 1.1: a number of bits that is none is refused, whatever the number is.
func TestWidthsThatAreNone(t *testing.T) {
	for _, n := range wrongWidths {
		for _, v := range wrongSamples {
			if w, e := Wrap(uint64(v), n); w != 0 || e != api.ErrRange {
				t.Errorf("Wrap(%d, %d): %d, error %d", uint64(v), n, w, e)
			}
			if w, e := Sign(uint64(v), n); w != 0 || e != api.ErrRange {
				t.Errorf("Sign(%d, %d): %d, error %d", uint64(v), n, w, e)
			}
			if w, e := Bits(v, n); w != 0 || e != api.ErrRange {
				t.Errorf("Bits(%d, %d): %d, error %d", v, n, w, e)
			}
		}
	}
}

// Promise 1.1: what Wrap answers at the edges.
func TestWrapAtEdges(t *testing.T) {
	for _, c := range []struct {
		v    uint64
		n    int
		want uint64
	}{
		{300, 8, 44}, {255, 8, 255}, {256, 8, 0}, {257, 8, 1},
		{0, 1, 0}, {1, 1, 1}, {2, 1, 0}, {3, 1, 1}, {math.MaxUint64, 1, 1},
		{math.MaxUint64, 63, math.MaxInt64}, {1 << 63, 63, 0},
		{math.MaxUint64, 64, math.MaxUint64}, {1 << 63, 64, 1 << 63}, {0, 64, 0},
		{1<<32 + 7, 32, 7}, {1<<32 + 7, 33, 1<<32 + 7},
	} {
		if got, e := Wrap(c.v, c.n); got != c.want || e != api.OK {
			t.Errorf("Wrap(%d, %d): %d, error %d, not %d", c.v, c.n, got, e, c.want)
		}
	}
}

// Promise 1.1: what Sign answers at the edges.
func TestSignAtEdges(t *testing.T) {
	for _, c := range []struct {
		v    uint64
		n    int
		want int64
	}{
		{200, 8, -56}, {127, 8, 127}, {128, 8, -128}, {255, 8, -1}, {256, 8, 0}, {456, 8, -56},
		{0, 1, 0}, {1, 1, -1}, {2, 1, 0}, {3, 1, -1},
		{1 << 62, 63, -(1 << 62)}, {1<<62 - 1, 63, 1<<62 - 1}, {math.MaxInt64, 63, -1},
		{math.MaxInt64, 64, math.MaxInt64}, {1 << 63, 64, math.MinInt64}, {math.MaxUint64, 64, -1},
	} {
		if got, e := Sign(c.v, c.n); got != c.want || e != api.OK {
			t.Errorf("Sign(%d, %d): %d, error %d, not %d", c.v, c.n, got, e, c.want)
		}
	}
}

// Promise 1.1: what Bits answers at the edges, and that it refuses what is just beyond.
func TestBitsAtEdges(t *testing.T) {
	for _, c := range []struct {
		v    int64
		n    int
		want uint64
		e    api.Errno
	}{
		{-56, 8, 200, api.OK}, {127, 8, 127, api.OK}, {-128, 8, 128, api.OK}, {0, 8, 0, api.OK}, {-1, 8, 255, api.OK},
		{128, 8, 0, api.ErrField}, {-129, 8, 0, api.ErrField},
		{math.MaxInt64, 8, 0, api.ErrField}, {math.MinInt64, 8, 0, api.ErrField},
		{0, 1, 0, api.OK}, {-1, 1, 1, api.OK}, {1, 1, 0, api.ErrField}, {-2, 1, 0, api.ErrField},
		{1<<62 - 1, 63, 1<<62 - 1, api.OK}, {-(1 << 62), 63, 1 << 62, api.OK},
		{1 << 62, 63, 0, api.ErrField}, {-(1 << 62) - 1, 63, 0, api.ErrField},
		{math.MaxInt64, 64, math.MaxInt64, api.OK}, {math.MinInt64, 64, 1 << 63, api.OK}, {-1, 64, math.MaxUint64, api.OK},
	} {
		if got, e := Bits(c.v, c.n); got != c.want || e != c.e {
			t.Errorf("Bits(%d, %d): %d, error %d, not %d, error %d", c.v, c.n, got, e, c.want, c.e)
		}
	}
}

// wantSign is Sign, by the document's words.
func wantSign(v uint64, n int) *big.Int {
	w := modulo(unsigned(v), n)
	if w.Cmp(power(n-1)) < 0 {
		return w
	}
	return w.Sub(w, power(n))
}

// holds tells whether n bits hold a number with a sign.
func holds(v int64, n int) bool {
	w := big.NewInt(v)
	return w.Cmp(new(big.Int).Neg(power(n-1))) >= 0 && w.Cmp(power(n-1)) < 0
}

// Promise 1.1: all numbers of bits, by big numbers.
func TestWidths(t *testing.T) {
	for n := 1; n <= 64; n++ {
		for _, v := range patterns() {
			if got, e := Wrap(v, n); e != api.OK || unsigned(got).Cmp(modulo(unsigned(v), n)) != 0 {
				t.Errorf("Wrap(%d, %d): %d, error %d", v, n, got, e)
			}
			if got, e := Sign(v, n); e != api.OK || big.NewInt(got).Cmp(wantSign(v, n)) != 0 {
				t.Errorf("Sign(%d, %d): %d, error %d", v, n, got, e)
			}
			s := int64(v)
			got, e := Bits(s, n)
			if !holds(s, n) {
				if got != 0 || e != api.ErrField {
					t.Errorf("Bits(%d, %d): %d, error %d: it holds no such number", s, n, got, e)
				}
			} else if e != api.OK || unsigned(got).Cmp(modulo(big.NewInt(s), n)) != 0 {
				t.Errorf("Bits(%d, %d): %d, error %d", s, n, got, e)
			}
		}
	}
}

// Promise 1.2: what Rotate answers at the edges.
func TestRotateAtEdges(t *testing.T) {
	for _, c := range []struct {
		v    uint32
		by   int
		want uint32
	}{
		{1, -1, 1 << 31}, {1, 0, 1}, {1, 1, 2}, {1, 31, 1 << 31}, {1, 32, 1}, {1, 33, 2}, {1 << 31, 1, 1},
		{1, -31, 2}, {1, -32, 1}, {1, -33, 1 << 31},
		{1, 63, 1 << 31}, {1, 64, 1}, {1, -63, 2}, {1, -64, 1},
		{1, math.MaxInt, 1 << 31}, {1, math.MinInt, 1}, {1, math.MinInt + 1, 2},
		{0x12345678, 8, 0x34567812}, {0x12345678, -8, 0x78123456}, {0x12345678, 16, 0x56781234},
		{0, 7, 0}, {math.MaxUint32, 13, math.MaxUint32},
	} {
		if got := Rotate(c.v, c.by); got != c.want {
			t.Errorf("Rotate(%#x, %d): %#x, not %#x", c.v, c.by, got, c.want)
		}
	}
}

// Promise 1.2: each of the 32 bits goes by places to the left, round the end.
func TestRotateBitByBit(t *testing.T) {
	for _, by := range turns() {
		places := modulo(big.NewInt(int64(by)), 5).Int64()
		for _, p := range patterns() {
			v, want := uint32(p), uint32(0)
			for bit := range 32 {
				if v>>bit&1 == 1 {
					want |= 1 << ((bit + int(places)) % 32)
				}
			}
			if got := Rotate(v, by); got != want {
				t.Errorf("Rotate(%#x, %d): %#x, not %#x", v, by, got, want)
			}
		}
	}
}

// Promise 1.2: what Narrow answers at the edges of each size.
func TestNarrowAtEdges(t *testing.T) {
	type sizes struct {
		a int8
		b uint8
		c int16
		d uint16
		e int32
		f uint32
	}
	for _, c := range []struct {
		v    int64
		want sizes
	}{
		{0, sizes{}}, {-1, sizes{-1, 255, -1, 65535, -1, 4294967295}},
		{127, sizes{127, 127, 127, 127, 127, 127}}, {128, sizes{-128, 128, 128, 128, 128, 128}},
		{-129, sizes{127, 127, -129, 65407, -129, 4294967167}},
		{256, sizes{0, 0, 256, 256, 256, 256}},
		{32768, sizes{0, 0, -32768, 32768, 32768, 32768}},
		{65536 + 200, sizes{-56, 200, 200, 200, 65736, 65736}},
		{1 << 31, sizes{0, 0, 0, 0, math.MinInt32, 1 << 31}}, {1 << 32, sizes{}},
		{math.MaxInt64, sizes{-1, 255, -1, 65535, -1, 4294967295}}, {math.MinInt64, sizes{}},
	} {
		var got sizes
		got.a, got.b, got.c, got.d, got.e, got.f = Narrow(c.v)
		if got != c.want {
			t.Errorf("Narrow(%d): %v, not %v", c.v, got, c.want)
		}
	}
}

// Promise 1.2: each answer of Narrow is the number modulo its size, with a sign and without.
func TestNarrow(t *testing.T) {
	for _, p := range patterns() {
		v := int64(p)
		a, b, c, d, e, f := Narrow(v)
		for _, x := range []struct {
			n        int
			sign     int64
			unsigned uint64
		}{{8, int64(a), uint64(b)}, {16, int64(c), uint64(d)}, {32, int64(e), uint64(f)}} {
			if wantSign(uint64(v), x.n).Cmp(big.NewInt(x.sign)) != 0 {
				t.Errorf("Narrow(%d): %d of %d bits with a sign", v, x.sign, x.n)
			}
			if modulo(big.NewInt(v), x.n).Cmp(unsigned(x.unsigned)) != 0 {
				t.Errorf("Narrow(%d): %d of %d bits without a sign", v, x.unsigned, x.n)
			}
		}
	}
}

// Promise 1.2: what Shift answers at the edges.
func TestShiftAtEdges(t *testing.T) {
	const all = math.MaxUint64
	for _, c := range []struct {
		v    uint64
		by   int
		want uint64
	}{
		{5, 0, 5}, {5, 1, 10}, {5, -1, 2}, {7, -2, 1}, {3, -2, 0}, {all, 0, all},
		{1, 63, 1 << 63}, {3, 63, 1 << 63}, {2, 63, 0}, {all, 63, 1 << 63},
		{all, -63, 1}, {1 << 63, -63, 1}, {1<<63 - 1, -63, 0},
		{all, 64, 0}, {all, -64, 0}, {all, 65, 0}, {all, -65, 0}, {1, 128, 0}, {1, -128, 0},
		{all, math.MaxInt, 0}, {all, math.MinInt, 0}, {all, math.MinInt + 1, 0}, {all, 1 << 32, 0}, {all, -(1 << 32), 0},
	} {
		if got := Shift(c.v, c.by); got != c.want {
			t.Errorf("Shift(%d, %d): %d, not %d", c.v, c.by, got, c.want)
		}
	}
}

// wantShift is Shift, by the document's words.
func wantShift(v uint64, by int) *big.Int {
	switch {
	case by >= 0 && by <= 63:
		return modulo(new(big.Int).Mul(unsigned(v), power(by)), 64)
	case by >= -63 && by <= -1:
		return new(big.Int).Div(unsigned(v), power(-by))
	}
	return new(big.Int)
}

// Promise 1.2: Shift, by big numbers.
func TestShift(t *testing.T) {
	for _, by := range turns() {
		for _, v := range patterns() {
			if got := Shift(v, by); unsigned(got).Cmp(wantShift(v, by)) != 0 {
				t.Errorf("Shift(%d, %d): %d, not %d", v, by, got, wantShift(v, by))
			}
		}
	}
}

// Promise 1.3: Sign and Bits are each other's way back within n bits.
func TestSignAndBitsAreWaysBack(t *testing.T) {
	for n := 1; n <= 64; n++ {
		for _, v := range patterns() {
			w, _ := Wrap(v, n)
			s, _ := Sign(w, n)
			if back, e := Bits(s, n); back != w || e != api.OK {
				t.Errorf("Bits(Sign(%d, %d)): %d, error %d", w, n, back, e)
			}
			b, e := Bits(int64(v), n)
			if e != api.OK {
				continue
			}
			if back, e := Sign(b, n); back != int64(v) || e != api.OK {
				t.Errorf("Sign(Bits(%d, %d)): %d, error %d", int64(v), n, back, e)
			}
		}
	}
}

// Promise 1.3: turned by a, and then by b, is turned by both together.
func TestTurnsAddUp(t *testing.T) {
	for _, v := range []uint32{0, 1, 1 << 31, 0x12345678, 0xDEADBEEF, math.MaxUint32} {
		for a := -70; a <= 70; a++ {
			for b := -70; b <= 70; b++ {
				if got, want := Rotate(Rotate(v, a), b), Rotate(v, a+b); got != want {
					t.Errorf("Rotate(%#x) by %d, then %d: %#x, not %#x", v, a, b, got, want)
				}
			}
		}
	}
}

// Promise 1.3: to the left and back loses the highest bits alone.
func TestShiftAndBack(t *testing.T) {
	for by := 0; by <= 63; by++ {
		for _, v := range patterns() {
			want, _ := Wrap(v, 64-by)
			if got := Shift(Shift(v, by), -by); got != want {
				t.Errorf("Shift(%d, %d) and back: %d, not %d", v, by, got, want)
			}
		}
	}
}
