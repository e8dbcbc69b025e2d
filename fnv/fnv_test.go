package fnv

import (
	"hash/fnv"
	"math"
	"math/big"
	"strings"
	"testing"

	"tallboy/api"
)

// end is 2^32 - 1, the greatest number of a text.
const end = math.MaxUint32

// power is 2^n, from big numbers, that have no end.
func power(n int) *big.Int { return new(big.Int).Lsh(big.NewInt(1), uint(n)) }

// wantMore is More, by the document's words.
func wantMore(sum uint32, s string) uint32 {
	v := big.NewInt(int64(sum))
	for i := 0; i < len(s); i++ {
		v.Xor(v, big.NewInt(int64(s[i])))
		v.Mul(v, big.NewInt(16777619))
		v.Mod(v, power(32))
	}
	return uint32(v.Uint64())
}

// librarySum is a text's number as Go's library tells it.
func librarySum(s string) uint32 {
	h := fnv.New32a()
	h.Write([]byte(s))
	return h.Sum32()
}

// noise is n bytes without order, others for each seed.
func noise(seed uint64, n int) string {
	v := 88172645463325252 + seed*0x9E3779B97F4A7C15
	b := make([]byte, n)
	for i := range b {
		v ^= v << 13
		v ^= v >> 7
		v ^= v << 17
		b[i] = byte(v >> 24)
	}
	return string(b)
}

// texts are of all lengths up to some, and of all that may be in one: nothing, bytes at the ends of
// their halves, letters of more than one byte, and bytes that are no letters.
func texts() []string {
	list := []string{
		"", "a", "b", "ab", "ba", "abc", "foobar", "a b", " ", "  ", "k", "kk", "key:1", "~!",
		"\x00", "\x00\x00", "a\x00", "\x00a", "a\x00b", "\x7f", "\x80", "\xff", "\x00\x7f\x80\xff", "\xff\x80\x7f\x00", "\xff\xff\xff\xff",
		"\u00e4", "\u00ff", "\u20ac", "\U0001f600", "a\u00e4b", "\ufffd", "\u0000", "\ufeff",
		"\xc3", "\xe4", "a\xe4b", "\xc0\x80", "\xed\xa0\x80", "\xf4\x90\x80\x80", "\xe2\x82", "\x80\xbf", "\xfe\xff",
		"+!=yG", "eSN.1", "\xcc$1\xc4", "\xe0M\x9f\xcb", "U[-_4",
		"\r\n", "get k\r\n", strings.Repeat("x", 32), strings.Repeat("x", 33),
		strings.Repeat("\x00", 300), strings.Repeat("\xff", 300), strings.Repeat("\xe2\x82\xac", 100),
	}
	for n := range 70 {
		list = append(list, noise(uint64(n), n))
	}
	return list
}

// sums are numbers at the ends of what some bits hold, and some without order.
func sums() []uint32 {
	list := []uint32{2166136261, 16777619, 0x01020304, 0xFEDCBA98, 0xAAAAAAAA, 0x55555555, 0x0000FFFF, 0xFFFF0000, 0x00FFFF00}
	for n := range 32 {
		p := uint32(1) << n
		list = append(list, p-1, p, p+1, -p, -p-1, 5*p)
	}
	for _, s := range texts() {
		list = append(list, librarySum(s))
	}
	return list
}

// Promises 4.1 and 4.2: the chapter's examples.
func TestExamples(t *testing.T) {
	if s := Sum(""); s != 2166136261 {
		t.Errorf("Sum of the empty text: %d", s)
	}
	if s := Sum("a"); s != 3826002220 {
		t.Errorf("Sum of a: %d", s)
	}
	if Key("a b") {
		t.Errorf("Key of a text with a blank: yes")
	}
}

// Promise 4.1: numbers of texts that are known.
func TestSumOfKnownTexts(t *testing.T) {
	for _, c := range []struct {
		s    string
		want uint32
	}{
		{"", 2166136261}, {"a", 3826002220},
		{"b", 0xe70c2de5}, {"c", 0xe60c2c52}, {"f", 0xe30c2799}, {"fo", 0x6222e842}, {"foo", 0xa9f37ed7}, {"foobar", 0xbf9cf968},
		{"\x00", 0x050c5d1f}, {"\x7f", 0xfa0c4bce}, {"\x80", 0x850b939f}, {"\xff", 0x7a0b824e},
		// those whose number is at an end
		{"+!=yG", 0}, {"eSN.1", 0}, {"\xcc$1\xc4", 0}, {"\xe0M\x9f\xcb", 0}, {"U[-_4", 4294967295},
	} {
		if got := Sum(c.s); got != c.want {
			t.Errorf("Sum(%q): %d, not %d", c.s, got, c.want)
		}
	}
}

// Promise 4.1: texts of all kinds, by big numbers and by Go's library; letters count as their bytes.
func TestSum(t *testing.T) {
	for _, s := range texts() {
		if got, want := Sum(s), wantMore(2166136261, s); got != want || got != librarySum(s) {
			t.Errorf("Sum(%q): %d, not %d (library: %d)", s, got, want, librarySum(s))
		}
	}
	if Sum("\u00e4") != Sum("\xc3\xa4") || Sum("\u00e4") == Sum("\xe4") || Sum("\xff") == Sum("\ufffd") {
		t.Errorf("Sum: a letter of two bytes is not its bytes")
	}
}

// Promise 4.1: texts longer than any limit.
func TestSumOfLongTexts(t *testing.T) {
	for _, s := range []string{
		noise(7, api.MaxKey), noise(7, api.MaxKey+1), noise(8, api.MaxValue+1), noise(9, 1<<16-1), noise(9, 1<<16), noise(10, 1<<20),
		strings.Repeat("\x00", 1<<20), strings.Repeat("\xff", 1<<16+1),
	} {
		if got := Sum(s); got != librarySum(s) {
			t.Errorf("Sum of %d bytes: %d, not %d", len(s), got, librarySum(s))
		}
	}
}

// Promise 4.1: what More answers at the ends of numbers, with nothing and with one byte.
func TestMoreAtEdges(t *testing.T) {
	for _, c := range []struct {
		sum  uint32
		s    string
		want uint32
	}{
		{0, "", 0}, {1, "", 1}, {end, "", end}, {2166136261, "", 2166136261},
		{0, "\x00", 0}, {0, "\x00\x00\x00", 0}, {1, "\x01", 0}, {127, "\x7f", 0}, {128, "\x80", 0}, {255, "\xff", 0},
		{0, "\x01", 16777619}, {1, "\x00", 16777619}, {2, "\x00", 33555238}, {0, "\x80", 2147535232}, {0, "\xff", 4278292845},
		// the product of 255 stays in 32 bits, that of 256 does not
		{255, "\x00", 4278292845}, {256, "\x00", 103168}, {257, "\x00", 16880787},
		{end, "\x00", 4278189677}, {end, "\xff", 4294864128}, {1 << 31, "\x00", 1 << 31}, {1 << 31, "\x80", 51584},
		{3826002220, "", 3826002220}, {0x6222e842, "o", 0xa9f37ed7}, {0xa9f37ed7, "bar", 0xbf9cf968},
	} {
		if got := More(c.sum, c.s); got != c.want {
			t.Errorf("More(%d, %q): %d, not %d", c.sum, c.s, got, c.want)
		}
	}
}

// Promise 4.1: each byte behind many numbers, by big numbers.
func TestMoreByteByByte(t *testing.T) {
	for _, sum := range sums() {
		for b := range 256 {
			s := string([]byte{byte(b)})
			if got, want := More(sum, s), wantMore(sum, s); got != want {
				t.Errorf("More(%d, %q): %d, not %d", sum, s, got, want)
			}
		}
	}
}

// Promise 4.1: all texts behind numbers at the ends and without order, by big numbers.
func TestMore(t *testing.T) {
	for _, sum := range []uint32{0, 1, 255, 256, 1<<16 - 1, 1 << 16, 1<<31 - 1, 1 << 31, end - 1, end, 16777619, 2166136261, 0x12345678} {
		for _, s := range texts() {
			if got, want := More(sum, s), wantMore(sum, s); got != want {
				t.Errorf("More(%d, %q): %d, not %d", sum, s, got, want)
			}
		}
	}
}

// isPower tells whether a number is one of the seven that buckets may be as many as.
func isPower(n int) bool {
	for _, p := range []int{1, 2, 4, 8, 16, 32, 64} {
		if n == p {
			return true
		}
	}
	return false
}

// counts are numbers of buckets: all near those that may be, and those that are wrong in one way, or in two
// (no power of two, and too many; a power of two below nought), and those whose lowest 32 bits are a right one.
func counts() []int {
	list := []int{255, 256, 257, 512, 1023, 1024, 65536, 1 << 30, math.MaxInt32, math.MinInt32, 1 << 31, 1 << 32,
		1<<32 + 1, 1<<32 + 2, 1<<32 + 8, 1<<32 + 64, -(1 << 32), -(1 << 32) + 8, -1024, -256, 1 << 61, 1 << 62,
		math.MaxInt, math.MaxInt - 1, math.MaxInt - 63, math.MinInt, math.MinInt + 1, math.MinInt + 8, math.MinInt + 64}
	for n := -140; n <= 140; n++ {
		list = append(list, n)
	}
	return list
}

// Promise 4.2: which bucket a number has, at the edges.
func TestBucketAtEdges(t *testing.T) {
	for _, c := range []struct {
		sum     uint32
		n, want int
	}{
		{13, 8, 5}, {0, 1, 0}, {1, 1, 0}, {end, 1, 0}, {0, 2, 0}, {1, 2, 1}, {2, 2, 0}, {3, 2, 1}, {end, 2, 1}, {end - 1, 2, 0},
		{3, 4, 3}, {4, 4, 0}, {7, 8, 7}, {8, 8, 0}, {15, 16, 15}, {16, 16, 0}, {31, 32, 31}, {32, 32, 0},
		{0, 64, 0}, {1, 64, 1}, {63, 64, 63}, {64, 64, 0}, {65, 64, 1}, {127, 64, 63}, {128, 64, 0}, {end, 64, 63}, {end - 63, 64, 0},
		{1 << 31, 64, 0}, {1<<31 + 5, 64, 5}, {1<<31 - 1, 64, 63}, {1 << 16, 64, 0}, {2166136261, 8, 5}, {3826002220, 8, 4}, {3826002220, 64, 44},
	} {
		if got, e := Bucket(c.sum, c.n); got != c.want || e != api.OK {
			t.Errorf("Bucket(%d, %d): %d, error %d, not %d", c.sum, c.n, got, e, c.want)
		}
	}
}

// Promise 4.2: so many buckets as there can't be are refused, whatever the number is; of all others it is the number modulo them.
func TestBucket(t *testing.T) {
	for _, n := range counts() {
		for _, sum := range sums() {
			got, e := Bucket(sum, n)
			if !isPower(n) {
				if got != 0 || e != api.ErrRange {
					t.Errorf("Bucket(%d, %d): %d, error %d: there are no so many buckets", sum, n, got, e)
				}
				continue
			}
			want := new(big.Int).Mod(big.NewInt(int64(sum)), big.NewInt(int64(n))).Int64()
			if int64(got) != want || e != api.OK {
				t.Errorf("Bucket(%d, %d): %d, error %d, not %d", sum, n, got, e, want)
			}
		}
	}
}

// Promise 4.2: what Stripe answers at the edges.
func TestStripeAtEdges(t *testing.T) {
	for _, c := range []struct {
		sum  uint32
		want int
	}{
		{0, 0}, {1, 0}, {3, 0}, {4, 0}, {1<<16 - 1, 0}, {1 << 16, 1}, {1<<16 + 1, 1}, {1<<17 - 1, 1}, {1 << 17, 2},
		{3<<16 - 1, 2}, {3 << 16, 3}, {4<<16 - 1, 3}, {4 << 16, 0}, {5<<16 - 1, 0}, {5 << 16, 1}, {7 << 16, 3}, {8 << 16, 0},
		{1<<31 - 1, 3}, {1 << 31, 0}, {1<<31 + 1<<16, 1}, {end - 1<<16, 2}, {end - 1<<16 + 1, 3}, {end - 1, 3}, {end, 3},
		{2166136261, 0}, {3826002220, 0}, {0x01020304, 2}, {0x050c5d1f, 0}, {0xbf9cf968, 0}, {0xa9f37ed7, 3},
	} {
		if got := Stripe(c.sum); got != c.want {
			t.Errorf("Stripe(%d): %d, not %d", c.sum, got, c.want)
		}
	}
}

// Promise 4.2: Stripe by big numbers.
func TestStripe(t *testing.T) {
	for _, sum := range sums() {
		want := new(big.Int).Div(big.NewInt(int64(sum)), power(16))
		want.Mod(want, big.NewInt(4))
		if got := Stripe(sum); int64(got) != want.Int64() {
			t.Errorf("Stripe(%d): %d, not %d", sum, got, want)
		}
	}
}

// Promise 4.2: what is a key, and what is none.
func TestKey(t *testing.T) {
	for _, s := range []string{
		"a", "!", "~", "~!", "0", "foobar", "key:1", "\"", "}", "a-b_c/d\\e", "ABC", "abcdefghijklmnopqrstuvwxyz012345",
		strings.Repeat("!", 32), strings.Repeat("~", 32), strings.Repeat("k", 31), "$a", "#1", "%20",
	} {
		if !Key(s) {
			t.Errorf("Key(%q): no", s)
		}
	}
	for _, s := range []string{
		"", " ", "a b", " a", "a ", "\x7f", "a\x7f", "\x7fa", "\x00", "a\x00", "\x00a", "\t", "a\n", "a\r\n", "\x1f", "\x1b[0m",
		"\x80", "a\x80", "\xa1", "\xff", "a\xff", "\xc3", "\xe4", "\u00e4", "a\u00e4", "\u00a0", "\u20ac", "\U0001f600", "\ufffd", "\uff41", "\u0121",
	} {
		if Key(s) {
			t.Errorf("Key(%q): yes", s)
		}
	}
}

// Promise 4.2: how long a key may be; of what is longer, and has no bytes that a key has either, too.
func TestLengthsOfKeys(t *testing.T) {
	for _, n := range []int{0, 1, 2, 16, 31, 32, 33, 34, 64, 65, 128, 255, 256, 257, 256 + 32, 512 + 1, 1<<16 + 1, 1 << 20} {
		for _, b := range []string{"!", "k", "~"} {
			if got, want := Key(strings.Repeat(b, n)), n >= 1 && n <= 32; got != want {
				t.Errorf("Key of %d times %s: %t", n, b, got)
			}
		}
		for _, b := range []string{" ", "\x7f", "\x00", "\xff", "\u00e4"} {
			if Key(strings.Repeat(b, n)) {
				t.Errorf("Key of %d times %q: yes", n, b)
			}
		}
	}
	// 11 letters are 33 bytes; bytes are counted, and letters are not
	if Key(strings.Repeat("\u20ac", 11)) || Key(strings.Repeat("\u00e4", 16)) {
		t.Errorf("Key of letters of more bytes: yes")
	}
}

// Promise 4.2: each byte at each place of a text of each length.
func TestKeyByteByByte(t *testing.T) {
	for n := 1; n <= 34; n++ {
		for at := range n {
			for b := range 256 {
				text := []byte(strings.Repeat("k", n))
				text[at] = byte(b)
				if got, want := Key(string(text)), n <= 32 && b >= 33 && b <= 126; got != want {
					t.Errorf("Key(%q): %t", text, got)
				}
			}
		}
	}
}

// Promise 4.3: the number of a text is that of its beginning, gone on with, wherever it is cut.
func TestMoreOfABeginning(t *testing.T) {
	for _, s := range texts() {
		for at := range len(s) + 1 {
			if got, want := More(Sum(s[:at]), s[at:]), Sum(s); got != want {
				t.Errorf("More(Sum(%q), %q): %d, not %d", s[:at], s[at:], got, want)
			}
		}
		pieces := Sum("")
		for at := range len(s) {
			pieces = More(pieces, s[at:at+1])
		}
		if pieces != Sum(s) {
			t.Errorf("%q byte by byte: %d, not %d", s, pieces, Sum(s))
		}
	}
}

// Promise 4.3: the same from any number on, cut twice.
func TestMoreInPieces(t *testing.T) {
	s := "a\x00\xe2\x82\xac \xffkey"
	for _, sum := range sums() {
		want := More(sum, s)
		for first := range len(s) + 1 {
			for second := first; second <= len(s); second++ {
				got := More(More(More(sum, s[:first]), s[first:second]), s[second:])
				if got != want {
					t.Errorf("%q from %d on, cut at %d and %d: %d, not %d", s, sum, first, second, got, want)
				}
			}
		}
	}
}

// Promise 4.3: of twice as many buckets it is the same one, or the one that is so many further.
func TestBucketOfTwiceAsMany(t *testing.T) {
	for n := 1; n < 64; n *= 2 {
		same, further := 0, 0
		for _, sum := range sums() {
			few, e1 := Bucket(sum, n)
			many, e2 := Bucket(sum, 2*n)
			switch {
			case e1 != api.OK || e2 != api.OK:
				t.Errorf("Bucket(%d, %d and twice that): errors %d and %d", sum, n, e1, e2)
			case many == few:
				same++
			case many == few+n:
				further++
			default:
				t.Errorf("Bucket(%d, %d): %d, but %d of twice as many", sum, n, few, many)
			}
		}
		if same == 0 || further == 0 {
			t.Errorf("%d buckets and twice that: %d stay, and %d go further", n, same, further)
		}
	}
}
