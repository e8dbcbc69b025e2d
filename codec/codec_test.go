package codec

import (
	"bytes"
	"encoding/binary"
	"math"
	"math/big"
	"testing"

	"tallboy/api"
)

// widths are those that a number may have.
var widths = []int{1, 2, 4, 8}

// wrongWidths are those that no number has; some have a right one as their lowest bits.
var wrongWidths = []int{0, -1, -2, -4, -8, -9, 3, 5, 6, 7, 9, 10, 12, 15, 16, 17, 24, 32, 63, 64, 65, 128, 255, 256, 257, 260,
	math.MaxInt32, math.MinInt32, 1<<32 + 1, 1<<32 + 2, 1<<32 + 4, 1<<32 + 8, 1 << 61, 1<<61 + 4,
	math.MaxInt, math.MaxInt - 1, math.MinInt, math.MinInt + 1, math.MinInt + 4, math.MinInt + 8}

// farAways are places in no list: also those to which a width added leaves the type.
var farAways = []int{-1, -2, -3, -4, -5, -8, -9, math.MinInt8, math.MinInt32, math.MinInt32 - 1, math.MinInt, math.MinInt + 1, math.MinInt + 8,
	math.MaxInt32, 1 << 31, 1 << 32, 1<<32 + 1, -(1 << 32), math.MaxInt, math.MaxInt - 1, math.MaxInt - 3, math.MaxInt - 4, math.MaxInt - 7, math.MaxInt - 8}

// paints are what lies in a list ahead of a call: no bits, all of them, and some.
var paints = []byte{0, 255, 0xA5}

// painted is a list of n bytes that are all the same, with spare room behind its end that is, too.
func painted(n int, paint byte) (b, room []byte) {
	room = bytes.Repeat([]byte{paint}, n+24)
	return room[:n], room
}

// isThere tells whether bytes are all in a list, by numbers that have no end.
func isThere(n, at, width int) bool {
	end := new(big.Int).Add(big.NewInt(int64(at)), big.NewInt(int64(width)))
	return at >= 0 && end.Cmp(big.NewInt(int64(n))) <= 0
}

// fits tells whether a number needs no more than width bytes.
func fits(v uint64, width int) bool {
	return new(big.Int).SetUint64(v).BitLen() <= 8*width
}

// written is a number's bytes, the lowest first.
func written(v uint64, width int) []byte {
	return binary.LittleEndian.AppendUint64(nil, v)[:width]
}

// numbers are those at the ends of what each count of bits holds, and some without order.
func numbers() []uint64 {
	list := []uint64{0, 258, 0x0102, 0x01020304, 0x0102030405060708, 0x8070605040302010, 0xFF00FF00FF00FF00, 0x00FF00FF00FF00FF}
	for n := range 64 {
		p := uint64(1) << n
		list = append(list, p-1, p, p+1, -p, -p-1)
	}
	v := uint64(88172645463325252)
	for n := range 128 {
		v ^= v << 13
		v ^= v >> 7
		v ^= v << 17
		list = append(list, v>>(n%64))
	}
	return list
}

// numberEdges are those around what each width holds.
var numberEdges = []uint64{0, 1, 127, 128, 254, 255, 256, 257, 511, 512, 65534, 65535, 65536, 65537, 1<<24 - 1, 1 << 24,
	1<<32 - 2, 1<<32 - 1, 1 << 32, 1<<32 + 1, 1 << 40, 1 << 56, 1<<63 - 1, 1 << 63, 1<<64 - 2, 1<<64 - 1}

// places are those at the ends of what a place is, and what is none beside them.
var places = []int{-1, 0, 1, 127, 128, 255, 256, 32767, 32768, 65535, 65536, 1<<24 - 1, 1 << 24, 1<<31 - 2, 1<<31 - 1, 0x01020304, 0x7FFEFDFC}

var wrongPlaces = []int{-2, -3, -4, -128, -129, -255, -256, -257, -32768, -65536, -65537, math.MinInt32, math.MinInt32 - 1, math.MinInt32 + 1,
	1 << 31, 1<<31 + 1, 1<<32 - 2, 1<<32 - 1, 1 << 32, 1<<32 + 1, -(1 << 32), -(1 << 32) - 1, -(1 << 32) + 1, 1 << 40,
	math.MaxInt, math.MaxInt - 1, math.MinInt, math.MinInt + 1}

// checkPut does a Put, and holds the error, the bytes, those beside, and those in the spare room against what they must be.
func checkPut(t *testing.T, n, at, width int, v uint64, paint byte, want api.Errno) {
	t.Helper()
	b, room := painted(n, paint)
	_, after := painted(n, paint)
	if want == api.OK {
		copy(after[at:], written(v, width))
	}
	if e := Put(b, at, width, v); e != want || !bytes.Equal(room, after) {
		t.Errorf("Put of %d bytes of %d, at %d, width %d, number %d: error %d, not %d: % x, not % x", n, paint, at, width, v, e, want, room, after)
	}
}

// checkPutPlace does so with PutPlace.
func checkPutPlace(t *testing.T, n, at, place int, paint byte, want api.Errno) {
	t.Helper()
	b, room := painted(n, paint)
	_, after := painted(n, paint)
	if want == api.OK {
		copy(after[at:], written(uint64(place)&math.MaxUint32, 4))
	}
	if e := PutPlace(b, at, place); e != want || !bytes.Equal(room, after) {
		t.Errorf("PutPlace of %d bytes of %d, at %d, place %d: error %d, not %d: % x, not % x", n, paint, at, place, e, want, room, after)
	}
}

// checkGet does a Get, and looks whether it changed anything.
func checkGet(t *testing.T, b []byte, at, width int, want uint64, e api.Errno) {
	t.Helper()
	before := bytes.Clone(b[:cap(b)])
	if v, got := Get(b, at, width); v != want || got != e {
		t.Errorf("Get(% x, %d, %d): %d, error %d, not %d, error %d", b, at, width, v, got, want, e)
	}
	if !bytes.Equal(b[:cap(b)], before) {
		t.Errorf("Get(% x, %d, %d): the bytes are others behind it", before, at, width)
	}
}

// checkGetPlace does so with GetPlace.
func checkGetPlace(t *testing.T, b []byte, at, want int, e api.Errno) {
	t.Helper()
	before := bytes.Clone(b[:cap(b)])
	if place, got := GetPlace(b, at); place != want || got != e {
		t.Errorf("GetPlace(% x, %d): %d, error %d, not %d, error %d", b, at, place, got, want, e)
	}
	if !bytes.Equal(b[:cap(b)], before) {
		t.Errorf("GetPlace(% x, %d): the bytes are others behind it", before, at)
	}
}

// Promises 3.1 and 3.2: the chapter's examples.
func TestExamples(t *testing.T) {
	b := make([]byte, 6)
	if e := Put(b, 0, 2, 258); e != api.OK || !bytes.Equal(b, []byte{2, 1, 0, 0, 0, 0}) {
		t.Errorf("Put of 258 in 2 bytes: %v, error %d", b, e)
	}
	if e := PutPlace(b, 2, -1); e != api.OK || !bytes.Equal(b, []byte{2, 1, 255, 255, 255, 255}) {
		t.Errorf("PutPlace of -1: %v, error %d", b, e)
	}
	if e := Put(b, 0, 1, 256); e != api.ErrField || !bytes.Equal(b, []byte{2, 1, 255, 255, 255, 255}) {
		t.Errorf("Put of 256 in 1 byte: %v, error %d", b, e)
	}
}

// Promise 3.1: what Put lays, byte by byte.
func TestPut(t *testing.T) {
	for _, c := range []struct {
		width int
		v     uint64
		want  []byte
	}{
		{1, 0, []byte{0}}, {1, 1, []byte{1}}, {1, 128, []byte{128}}, {1, 255, []byte{255}},
		{2, 0, []byte{0, 0}}, {2, 255, []byte{255, 0}}, {2, 256, []byte{0, 1}}, {2, 258, []byte{2, 1}}, {2, 65535, []byte{255, 255}},
		{4, 0, []byte{0, 0, 0, 0}}, {4, 258, []byte{2, 1, 0, 0}}, {4, 65536, []byte{0, 0, 1, 0}}, {4, 1 << 24, []byte{0, 0, 0, 1}},
		{4, 0x01020304, []byte{4, 3, 2, 1}}, {4, 1<<32 - 1, []byte{255, 255, 255, 255}},
		{8, 0, []byte{0, 0, 0, 0, 0, 0, 0, 0}}, {8, 0x0102030405060708, []byte{8, 7, 6, 5, 4, 3, 2, 1}},
		{8, 1 << 32, []byte{0, 0, 0, 0, 1, 0, 0, 0}}, {8, 1 << 63, []byte{0, 0, 0, 0, 0, 0, 0, 128}},
		{8, 1<<64 - 2, []byte{254, 255, 255, 255, 255, 255, 255, 255}},
	} {
		b := bytes.Repeat([]byte{77}, c.width)
		if e := Put(b, 0, c.width, c.v); e != api.OK || !bytes.Equal(b, c.want) {
			t.Errorf("Put of %d in %d bytes: %v, error %d, not %v", c.v, c.width, b, e, c.want)
		}
		checkGet(t, c.want, 0, c.width, c.v, api.OK)
	}
}

// Promise 3.1: what Get reads out of the midst of a list, and that the bytes beside do not count.
func TestGet(t *testing.T) {
	b := []byte{1, 2, 3, 4, 5, 6, 7, 8, 9, 255}
	for _, c := range []struct {
		at, width int
		want      uint64
	}{
		{0, 1, 1}, {9, 1, 255}, {0, 2, 0x0201}, {8, 2, 0xFF09}, {3, 2, 0x0504}, {0, 4, 0x04030201}, {5, 4, 0x09080706},
		{6, 4, 0xFF090807}, {0, 8, 0x0807060504030201}, {1, 8, 0x0908070605040302}, {2, 8, 0xFF09080706050403},
	} {
		checkGet(t, b, c.at, c.width, c.want, api.OK)
	}
}

// Promise 3.1: each number that fits is laid, each one that does not is refused.
func TestNumbersThatFit(t *testing.T) {
	for _, v := range append(numbers(), numberEdges...) {
		for _, width := range widths {
			want := api.OK
			if !fits(v, width) {
				want = api.ErrField
			}
			for _, paint := range paints {
				checkPut(t, 11, 2, width, v, paint, want)
				checkPut(t, width, 0, width, v, paint, want)
			}
		}
	}
}

// Promise 3.1: the greatest number of a width, and one more.
func TestNumbersThatJustFit(t *testing.T) {
	for _, c := range []struct {
		width int
		most  uint64
	}{{1, 255}, {2, 65535}, {4, 4294967295}} {
		checkPut(t, 8, 0, c.width, c.most, 9, api.OK)
		checkPut(t, 8, 0, c.width, c.most+1, 9, api.ErrField)
		checkPut(t, 8, 0, c.width, 2*c.most+1, 9, api.ErrField)
		checkPut(t, 8, 0, c.width, 1<<63, 9, api.ErrField)
		checkPut(t, 8, 0, c.width, math.MaxUint64, 9, api.ErrField)
	}
	checkPut(t, 8, 0, 8, math.MaxUint64, 9, api.OK)
}

// Promise 3.1: a width that is none is refused, wherever it is, and whatever the number is.
func TestWidthsThatAreNone(t *testing.T) {
	for _, width := range wrongWidths {
		for _, n := range []int{0, 1, 8, 300} {
			for _, at := range []int{0, 1, n, -1, n + 1, -width, n - width, math.MaxInt, math.MinInt} {
				for _, v := range []uint64{0, 1, 256, math.MaxUint64} {
					checkPut(t, n, at, width, v, 7, api.ErrRange)
				}
				b, _ := painted(n, 7)
				checkGet(t, b, at, width, 0, api.ErrRange)
			}
		}
	}
	for width := -70; width <= 300; width++ {
		want, b := api.ErrRange, make([]byte, 300)
		if width == 1 || width == 2 || width == 4 || width == 8 {
			want = api.OK
		}
		checkPut(t, 300, 0, width, 0, 7, want)
		checkGet(t, b, 0, width, 0, want)
	}
}

// Promise 3.1: all places near a list's ends, in lists of all lengths from the empty one on.
func TestPlacesInLists(t *testing.T) {
	for n := range 20 {
		for at := -12; at <= n+12; at++ {
			for _, width := range widths {
				want := api.OK
				if !isThere(n, at, width) {
					want = api.ErrRange
				}
				v := uint64(0x8182838485868788) >> (64 - 8*width)
				checkPut(t, n, at, width, v, 7, want)
				b, read := numbered(n), uint64(0)
				for i := width - 1; want == api.OK && i >= 0; i-- {
					read = read<<8 | uint64(b[at+i])
				}
				checkGet(t, b, at, width, read, want)
			}
		}
	}
}

// numbered is a list of n bytes that are all different, with spare room behind its end.
func numbered(n int) []byte {
	room := make([]byte, n+24)
	for i := range room {
		room[i] = byte(200 + i)
	}
	return room[:n]
}

// Promise 3.1: the bytes are just all there, and one less.
func TestBytesThatAreJustThere(t *testing.T) {
	for _, width := range widths {
		for _, at := range []int{0, 1, 5} {
			checkPut(t, at+width, at, width, 1, 7, api.OK)
			checkPut(t, at+width-1, at, width, 1, 7, api.ErrRange)
			checkPut(t, at, at, width, 1, 7, api.ErrRange)
			checkGet(t, make([]byte, at+width), at, width, 0, api.OK)
			checkGet(t, make([]byte, at+width-1), at, width, 0, api.ErrRange)
			checkGet(t, make([]byte, at), at, width, 0, api.ErrRange)
		}
		checkPut(t, 20, -1, width, 1, 7, api.ErrRange)
		checkPut(t, 20, -width, width, 1, 7, api.ErrRange)
	}
}

// Promises 3.1 and 3.2: places far from each list, at the ends of their type.
func TestPlacesFarAway(t *testing.T) {
	for _, at := range farAways {
		for _, n := range []int{0, 1, 4, 8, 40} {
			for _, width := range widths {
				checkPut(t, n, at, width, 1, 7, api.ErrRange)
				checkGet(t, numbered(n), at, width, 0, api.ErrRange)
			}
			checkPutPlace(t, n, at, 1, 7, api.ErrRange)
			checkGetPlace(t, numbered(n), at, 0, api.ErrRange)
		}
	}
}

// Promises 3.1 and 3.2: an empty list has no bytes, whether it is nil or of length 0, with room or without.
func TestEmptyLists(t *testing.T) {
	for _, b := range [][]byte{nil, {}, make([]byte, 0, 16)} {
		for _, at := range []int{0, 1, -1, math.MaxInt, math.MinInt} {
			for _, width := range append([]int{0, -1, 3}, widths...) {
				if e := Put(b, at, width, 0); e != api.ErrRange {
					t.Errorf("Put at %d, width %d: error %d", at, width, e)
				}
				checkGet(t, b, at, width, 0, api.ErrRange)
			}
			if e := PutPlace(b, at, 0); e != api.ErrRange {
				t.Errorf("PutPlace at %d: error %d", at, e)
			}
			checkGetPlace(t, b, at, 0, api.ErrRange)
		}
	}
}

// Promises 3.1 and 3.2: what lies behind a list's end is none of its bytes, though there is room.
func TestSpareRoom(t *testing.T) {
	for _, n := range []int{0, 1, 3, 4, 7, 8} {
		b, room := painted(n, 9)
		for at := n; at < len(room); at++ {
			for _, width := range widths {
				checkPut(t, n, at, width, 1, 9, api.ErrRange)
				checkPut(t, n, n-width+1, width, 1, 9, api.ErrRange)
				checkGet(t, b, at, width, 0, api.ErrRange)
			}
			checkPutPlace(t, n, at, 1, 9, api.ErrRange)
			checkPutPlace(t, n, n-3, 1, 9, api.ErrRange)
			checkGetPlace(t, b, at, 0, api.ErrRange)
		}
	}
}

// Promises 3.1 and 3.2: a list that is longer than any limit of the program.
func TestLongLists(t *testing.T) {
	b := make([]byte, 1<<17)
	for _, at := range []int{0, 255, 256, 1023, 1024, 65533, 65535, 65536, 65537, 1<<17 - 8} {
		want := written(0x8182838485868788, 8)
		if e := Put(b, at, 8, 0x8182838485868788); e != api.OK || !bytes.Equal(b[at:at+8], want) {
			t.Errorf("Put at %d: % x, error %d", at, b[at:at+8], e)
		}
		checkGet(t, b, at, 8, 0x8182838485868788, api.OK)
		if e := PutPlace(b, at, 1<<31-2); e != api.OK || !bytes.Equal(b[at:at+4], []byte{254, 255, 255, 127}) {
			t.Errorf("PutPlace at %d: % x, error %d", at, b[at:at+4], e)
		}
		checkGetPlace(t, b, at, 1<<31-2, api.OK)
	}
	checkGet(t, b, 1<<17-7, 8, 0, api.ErrRange)
	checkGetPlace(t, b, 1<<17-3, 0, api.ErrRange)
}

// Promise 3.1: bytes that are not there are told ahead of a number that does not fit.
func TestNumbersWrongTwice(t *testing.T) {
	for _, v := range []uint64{256, 65536, 1 << 32, math.MaxUint64} {
		for _, width := range []int{1, 2, 4} {
			if fits(v, width) {
				continue
			}
			for _, at := range append([]int{20 - width + 1, 20, 21, 44}, farAways...) {
				checkPut(t, 20, at, width, v, 7, api.ErrRange)
			}
			checkPut(t, 0, 0, width, v, 7, api.ErrRange)
			checkPut(t, width-1, 0, width, v, 7, api.ErrRange)
		}
	}
}

// Promise 3.2: what PutPlace lays, byte by byte.
func TestPutPlace(t *testing.T) {
	for _, c := range []struct {
		place int
		want  []byte
	}{
		{-1, []byte{255, 255, 255, 255}}, {0, []byte{0, 0, 0, 0}}, {1, []byte{1, 0, 0, 0}}, {255, []byte{255, 0, 0, 0}},
		{256, []byte{0, 1, 0, 0}}, {0x01020304, []byte{4, 3, 2, 1}}, {1 << 30, []byte{0, 0, 0, 64}},
		{1<<31 - 2, []byte{254, 255, 255, 127}}, {1<<31 - 1, []byte{255, 255, 255, 127}},
	} {
		b := bytes.Repeat([]byte{77}, 4)
		if e := PutPlace(b, 0, c.place); e != api.OK || !bytes.Equal(b, c.want) {
			t.Errorf("PutPlace of %d: %v, error %d, not %v", c.place, b, e, c.want)
		}
		checkGetPlace(t, c.want, 0, c.place, api.OK)
	}
}

// Promise 3.2: all places near a list's ends, in lists of all lengths; a place is four bytes wide.
func TestWherePlacesLie(t *testing.T) {
	for n := range 14 {
		for at := -9; at <= n+9; at++ {
			want := api.OK
			if !isThere(n, at, 4) {
				want = api.ErrRange
			}
			for _, place := range places {
				checkPutPlace(t, n, at, place, 7, want)
			}
			read, b := 0, bytes.Repeat([]byte{1, 2, 3, 4}, 10)[:n]
			if want == api.OK {
				read = int(binary.LittleEndian.Uint32(b[at:]))
			}
			checkGetPlace(t, b, at, read, want)
		}
	}
}

// Promise 3.2: numbers that are no place are refused, and lay nothing.
func TestPlacesThatAreNone(t *testing.T) {
	for _, place := range wrongPlaces {
		for _, paint := range paints {
			checkPutPlace(t, 4, 0, place, paint, api.ErrField)
			checkPutPlace(t, 9, 3, place, paint, api.ErrField)
		}
	}
	for n := range 63 {
		place, e := 1<<n, api.OK
		if n >= 31 {
			e = api.ErrField
		}
		checkPutPlace(t, 6, 1, place, 7, e)
		checkPutPlace(t, 6, 1, place-1, 7, placeError(place-1))
		checkPutPlace(t, 6, 1, -place, 7, placeError(-place))
		checkPutPlace(t, 6, 1, -place-1, 7, api.ErrField)
	}
}

// placeError is what PutPlace is to answer, where the bytes are there.
func placeError(place int) api.Errno {
	if place >= -1 && place <= 2147483647 {
		return api.OK
	}
	return api.ErrField
}

// Promise 3.2: four bytes that are no place are refused; those at the ends of what is one are read.
func TestBytesThatAreNoPlace(t *testing.T) {
	for _, c := range []struct {
		bytes []byte
		place int
		e     api.Errno
	}{
		{[]byte{255, 255, 255, 255}, -1, api.OK}, {[]byte{254, 255, 255, 255}, 0, api.ErrField}, {[]byte{253, 255, 255, 255}, 0, api.ErrField},
		{[]byte{255, 254, 255, 255}, 0, api.ErrField}, {[]byte{255, 255, 254, 255}, 0, api.ErrField}, {[]byte{255, 255, 255, 254}, 0, api.ErrField},
		{[]byte{255, 255, 255, 127}, 1<<31 - 1, api.OK}, {[]byte{254, 255, 255, 127}, 1<<31 - 2, api.OK},
		{[]byte{0, 0, 0, 128}, 0, api.ErrField}, {[]byte{1, 0, 0, 128}, 0, api.ErrField}, {[]byte{255, 255, 255, 128}, 0, api.ErrField},
		{[]byte{0, 0, 0, 255}, 0, api.ErrField}, {[]byte{0, 255, 255, 255}, 0, api.ErrField}, {[]byte{0, 0, 0, 192}, 0, api.ErrField},
		{[]byte{0, 0, 128, 0}, 1 << 23, api.OK}, {[]byte{0, 0, 0, 0}, 0, api.OK}, {[]byte{0, 0, 255, 127}, 0x7FFF0000, api.OK},
	} {
		checkGetPlace(t, c.bytes, 0, c.place, c.e)
		checkGetPlace(t, append([]byte{9, 9}, append(c.bytes, 9, 9)...), 2, c.place, c.e)
		checkGetPlace(t, append([]byte{255, 255}, append(c.bytes, 255, 255)...), 2, c.place, c.e)
	}
}

// Promise 3.2: each byte at each of the four, between bytes that have no bits and such that have all.
func TestPlacesByteByByte(t *testing.T) {
	for _, paint := range paints {
		for i := range 4 {
			for part := range 256 {
				b := bytes.Repeat([]byte{paint}, 4)
				b[i] = byte(part)
				v := int(binary.LittleEndian.Uint32(b))
				switch {
				case v == 1<<32-1:
					checkGetPlace(t, b, 0, -1, api.OK)
				case v >= 1<<31:
					checkGetPlace(t, b, 0, 0, api.ErrField)
				default:
					checkGetPlace(t, b, 0, v, api.OK)
				}
			}
		}
	}
}

// Promise 3.2: bytes that are not there are told ahead of a number that is no place.
func TestPlacesWrongTwice(t *testing.T) {
	for _, place := range wrongPlaces {
		for _, at := range append([]int{7, 8, 9, 10, 11}, farAways...) {
			checkPutPlace(t, 10, at, place, 7, api.ErrRange)
		}
		checkPutPlace(t, 0, 0, place, 7, api.ErrRange)
		checkPutPlace(t, 3, 0, place, 7, api.ErrRange)
	}
	// What is there of the bytes, and what lies behind the list's end, would be no place.
	b := bytes.Repeat([]byte{200}, 12)
	for _, at := range append([]int{7, 8, 9, 10, 11}, farAways...) {
		checkGetPlace(t, b[:10], at, 0, api.ErrRange)
	}
	checkGetPlace(t, b[:3], 0, 0, api.ErrRange)
	checkGetPlace(t, b[:0], 0, 0, api.ErrRange)
}

// Promise 3.3: Get of Put is the number, wherever it lies.
func TestGetOfPut(t *testing.T) {
	for _, v := range numbers() {
		for _, width := range widths {
			for at := range 4 {
				b, _ := painted(12, 0xA5)
				if e := Put(b, at, width, v); (e == api.OK) != fits(v, width) {
					t.Errorf("Put of %d in %d bytes: error %d", v, width, e)
				} else if e == api.OK {
					checkGet(t, b, at, width, v, api.OK)
				}
			}
		}
	}
	for _, place := range places {
		for at := range 4 {
			b, _ := painted(8, 0xA5)
			if e := PutPlace(b, at, place); e != api.OK {
				t.Errorf("PutPlace of %d: error %d", place, e)
			}
			checkGetPlace(t, b, at, place, api.OK)
			checkGet(t, b, at, 4, uint64(place)%(1<<32), api.OK)
		}
	}
}

// Promise 3.3: what is read and laid back leaves the bytes as they were.
func TestPutOfGet(t *testing.T) {
	b := numbered(24)
	for _, width := range widths {
		for at := 0; at+width <= len(b); at++ {
			v, e := Get(b, at, width)
			if back := Put(b, at, width, v); e != api.OK || back != api.OK || !bytes.Equal(b, numbered(24)) {
				t.Fatalf("Put of Get at %d, width %d: % x, errors %d and %d", at, width, b, e, back)
			}
		}
	}
}

// Promise 3.3: numbers that lie one behind the other are each as they were laid; one laid over another one changes what it covers alone.
func TestNumbersBeside(t *testing.T) {
	b := make([]byte, 19)
	for _, c := range []struct {
		at, width int
		v         uint64
	}{{0, 1, 255}, {1, 2, 65535}, {3, 4, 1<<32 - 1}, {7, 8, math.MaxUint64}, {3, 4, 0}, {1, 2, 0x0102}, {0, 1, 3}, {7, 8, 0x0102030405060708}} {
		if e := Put(b, c.at, c.width, c.v); e != api.OK {
			t.Errorf("Put at %d: error %d", c.at, e)
		}
	}
	if e := PutPlace(b, 15, -1); e != api.OK {
		t.Errorf("PutPlace: error %d", e)
	}
	if e := Put(b, 9, 2, 0xBEEF); e != api.OK {
		t.Errorf("Put over another number: error %d", e)
	}
	if want := []byte{3, 2, 1, 0, 0, 0, 0, 8, 7, 0xEF, 0xBE, 4, 3, 2, 1, 255, 255, 255, 255}; !bytes.Equal(b, want) {
		t.Errorf("the bytes: % x, not % x", b, want)
	}
}

// Promise 3.1: a list is not kept: calls on another one neither see it nor change it.
func TestListsAreNotKept(t *testing.T) {
	first, second := make([]byte, 8), make([]byte, 8)
	Put(first, 0, 8, 0x0102030405060708)
	PutPlace(second, 4, -1)
	checkGet(t, second, 0, 8, 0xFFFFFFFF00000000, api.OK)
	checkGet(t, first, 0, 8, 0x0102030405060708, api.OK)
	first[7], second[7] = 0, 127
	checkGet(t, first, 0, 8, 0x0002030405060708, api.OK)
	checkGetPlace(t, second, 4, 1<<31-1, api.OK)
}
