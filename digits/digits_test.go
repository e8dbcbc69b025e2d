package digits

import (
	"math"
	"math/big"
	"strings"
	"testing"

	"tallboy/api"
)

// noughts is a text of so many noughts.
func noughts(n int) string { return strings.Repeat("0", n) }

// numbers are those around which a length of writing or a size of a number
// changes (powers of ten and of two), and some without order.
func numbers() []uint64 {
	list := []uint64{0, 1, 5, 42, 1234567890, 9876543210, 12345678901234567890}
	for p := uint64(1); ; p *= 10 {
		list = append(list, p-1, p, p+1, 5*p)
		if p > math.MaxUint64/10 {
			break
		}
	}
	for n := range 64 {
		p := uint64(1) << n
		list = append(list, p-1, p, p+1, -p, -p-1)
	}
	v := uint64(88172645463325252)
	for n := range 256 {
		v ^= v << 13
		v ^= v >> 7
		v ^= v << 17
		list = append(list, v>>(n%64))
	}
	return list
}

// parsed is a text, and what Parse is to answer.
type parsed struct {
	s string
	n uint64
	e api.Errno
}

func checkParse(t *testing.T, list []parsed) {
	t.Helper()
	for _, c := range list {
		if n, e := Parse(c.s); n != c.n || e != c.e {
			t.Errorf("Parse(%.60q): %d, error %d, not %d, error %d", c.s, n, e, c.n, c.e)
		}
	}
}

// signed is a text, and what Signed is to answer.
type signed struct {
	s string
	n int64
	e api.Errno
}

func checkSigned(t *testing.T, list []signed) {
	t.Helper()
	for _, c := range list {
		if n, e := Signed(c.s); n != c.n || e != c.e {
			t.Errorf("Signed(%.60q): %d, error %d, not %d, error %d", c.s, n, e, c.n, c.e)
		}
	}
}

// Promise 2.1: numbers as they are, noughts ahead, and 19 and 20 digits of them.
func TestParse(t *testing.T) {
	checkParse(t, []parsed{
		{"0", 0, api.OK}, {"7", 7, api.OK}, {"007", 7, api.OK}, {"10", 10, api.OK}, {"00", 0, api.OK},
		{"1234567890", 1234567890, api.OK}, {"9876543210", 9876543210, api.OK},
		{"1000000000000000000", 1e18, api.OK}, {"9999999999999999999", 9999999999999999999, api.OK},
		{"10000000000000000000", 1e19, api.OK}, {"09999999999999999999", 9999999999999999999, api.OK},
		{noughts(19), 0, api.OK}, {noughts(20), 0, api.OK},
		{noughts(18) + "7", 7, api.OK}, {noughts(19) + "7", 7, api.OK},
	})
}

// Promise 2.1: where a number ends: at 2^64 - 1, and at no lesser one.
func TestParseAtEnds(t *testing.T) {
	checkParse(t, []parsed{
		{"9223372036854775806", 1<<63 - 2, api.OK}, {"9223372036854775807", 1<<63 - 1, api.OK},
		{"9223372036854775808", 1 << 63, api.OK}, {"9223372036854775809", 1<<63 + 1, api.OK},
		{"09223372036854775808", 1 << 63, api.OK},
		{"18446744073709551609", 1<<64 - 7, api.OK}, {"18446744073709551610", 1<<64 - 6, api.OK},
		{"18446744073709551614", 1<<64 - 2, api.OK}, {"18446744073709551615", 1<<64 - 1, api.OK},
		{"18446744073709551616", 0, api.ErrRange}, {"18446744073709551617", 0, api.ErrRange},
		{"18446744073709551619", 0, api.ErrRange}, {"18446744073709551620", 0, api.ErrRange},
		{"18446744073709551625", 0, api.ErrRange}, {"18446744073709551700", 0, api.ErrRange},
		{"20000000000000000000", 0, api.ErrRange}, {"36893488147419103232", 0, api.ErrRange},
		{"90000000000000000000", 0, api.ErrRange}, {"99999999999999999999", 0, api.ErrRange},
	})
}

// Promise 2.1: what is no number is refused: nothing, signs, blanks, other writings.
func TestParseOfWhatIsNone(t *testing.T) {
	for _, s := range []string{
		"", "-", "+", "+1", "-1", "-0", "--1", "+-1", "1-", "1-1", "1+1", "1+", "-007",
		" ", " 1", "1 ", "1 2", "\t1", "1\n", "1\r\n", "\x00", "1\x00", "\x001",
		"/", ":", "/1", "1/", ":1", "1:", "1/1", "1:1",
		"a", "1a", "0x10", "0b1", "0o7", "1_000", "1,000", "1.0", "1.", ".1", "1e3", "NaN", "Inf",
		"\xff", "1\xff", "\xb0", "\xb9", "\u0661", "\uff11", "1\u0661", "\u00b2", "-\u0661",
	} {
		checkParse(t, []parsed{{s, 0, api.ErrField}})
	}
}

// Promise 2.1: each byte at each place of a text, just below 0 and just above 9 among them.
func TestParseByteByByte(t *testing.T) {
	for n := 1; n <= 22; n++ {
		for at := range n {
			for b := range 256 {
				text := []byte(noughts(n))
				text[at] = byte(b)
				_, e := Parse(string(text))
				want := api.OK
				switch {
				case b < 48 || b > 57:
					want = api.ErrField
				case n > 20:
					want = api.ErrLong
				case n == 20 && at == 0 && b > 49: // 2 and 19 noughts are above the end
					want = api.ErrRange
				}
				if e != want {
					t.Errorf("Parse(%q): error %d, not %d", text, e, want)
				}
			}
		}
	}
}

// Promise 2.1: more than 20 bytes are too long, whatever their number; noughts ahead count.
func TestParseOfLongTexts(t *testing.T) {
	checkParse(t, []parsed{
		{noughts(21), 0, api.ErrLong}, {noughts(20) + "1", 0, api.ErrLong}, {"018446744073709551615", 0, api.ErrLong},
		{noughts(22), 0, api.ErrLong}, {noughts(256), 0, api.ErrLong}, {noughts(276), 0, api.ErrLong},
		{noughts(1 << 20), 0, api.ErrLong}, {noughts(1<<16) + "7", 0, api.ErrLong},
	})
}

// Promise 2.1: of two things that are wrong at once the first one named is told.
func TestParseOfTextsWrongTwice(t *testing.T) {
	checkParse(t, []parsed{
		// a byte that is none, and too long
		{"a" + noughts(20), 0, api.ErrField}, {noughts(20) + "a", 0, api.ErrField}, {noughts(10) + "-" + noughts(10), 0, api.ErrField},
		{"-" + noughts(20), 0, api.ErrField}, {"+" + noughts(20), 0, api.ErrField}, {noughts(1<<20) + "/", 0, api.ErrField},
		// a byte that is none, and a number above the end
		{"18446744073709551616:", 0, api.ErrField}, {"9999999999999999999a", 0, api.ErrField}, {"a9999999999999999999", 0, api.ErrField},
		{"99999999999999999999a", 0, api.ErrField}, {"-99999999999999999999", 0, api.ErrField},
		// too long, and a number above the end
		{"184467440737095516150", 0, api.ErrLong}, {"018446744073709551616", 0, api.ErrLong},
		{"999999999999999999999", 0, api.ErrLong}, {strings.Repeat("9", 1000), 0, api.ErrLong},
		// all three
		{"999999999999999999999a", 0, api.ErrField}, {strings.Repeat("9", 1000) + " ", 0, api.ErrField},
	})
}

// Promise 2.1: numbers with a sign ahead and without, noughts ahead of them among them.
func TestSigned(t *testing.T) {
	checkSigned(t, []signed{
		{"0", 0, api.OK}, {"7", 7, api.OK}, {"007", 7, api.OK}, {"-0", 0, api.OK}, {"-7", -7, api.OK}, {"-007", -7, api.OK},
		{"1234567890", 1234567890, api.OK}, {"-1234567890", -1234567890, api.OK}, {"-000", 0, api.OK},
		{noughts(19), 0, api.OK}, {noughts(20), 0, api.OK}, {noughts(19) + "1", 1, api.OK},
		// the sign is not one of the 20 bytes
		{"-" + noughts(19), 0, api.OK}, {"-" + noughts(20), 0, api.OK}, {"-" + noughts(19) + "1", -1, api.OK},
	})
}

// Promise 2.1: where a number with a sign ends, below nought one further than above it.
func TestSignedAtEnds(t *testing.T) {
	checkSigned(t, []signed{
		{"9223372036854775806", 1<<63 - 2, api.OK}, {"9223372036854775807", 1<<63 - 1, api.OK},
		{"09223372036854775807", 1<<63 - 1, api.OK}, {"09223372036854775808", 0, api.ErrRange},
		{"9223372036854775808", 0, api.ErrRange}, {"9223372036854775809", 0, api.ErrRange},
		{"-9223372036854775806", -(1<<63 - 2), api.OK}, {"-9223372036854775807", -(1<<63 - 1), api.OK},
		{"-9223372036854775808", math.MinInt64, api.OK}, {"-09223372036854775808", math.MinInt64, api.OK},
		{"-9223372036854775809", 0, api.ErrRange}, {"-09223372036854775809", 0, api.ErrRange},
		{"-9223372036854775810", 0, api.ErrRange},
		{"9999999999999999999", 0, api.ErrRange}, {"-9999999999999999999", 0, api.ErrRange},
		{"18446744073709551614", 0, api.ErrRange}, {"-18446744073709551614", 0, api.ErrRange},
		{"18446744073709551615", 0, api.ErrRange}, {"-18446744073709551615", 0, api.ErrRange},
		{"18446744073709551616", 0, api.ErrRange}, {"-18446744073709551616", 0, api.ErrRange},
		{"18446744073709551617", 0, api.ErrRange}, {"-18446744073709551617", 0, api.ErrRange},
		{"99999999999999999999", 0, api.ErrRange}, {"-99999999999999999999", 0, api.ErrRange},
	})
}

// Promise 2.1: a sign alone, a second one, one that is not ahead, or another one is none.
func TestSignedOfWhatIsNone(t *testing.T) {
	for _, s := range []string{
		"", "-", "+", "+1", "--", "--1", "---1", "-+1", "+-1", "1-", "1-1", "-1-", "-1-1", "0-1",
		" ", " -1", "- 1", "-1 ", " 1", "1 ", "-\x00", "\x00-1", "-1\x00", "-\xff", "\xff",
		"/", ":", "-/", "-:", "-1/", "-1:", "1/", "1:", "-/1", "-:1",
		"a", "-a", "-1a", "-0x1", "-1_0", "-1.0", "-1e3", "-\u0661", "\u0661", "\u22121", "\uff0d1",
	} {
		checkSigned(t, []signed{{s, 0, api.ErrField}})
	}
}

// Promise 2.1: of what stands behind a sign the length counts, and the first error named.
func TestSignedOfTextsWrongTwice(t *testing.T) {
	checkSigned(t, []signed{
		{noughts(21), 0, api.ErrLong}, {"-" + noughts(21), 0, api.ErrLong}, {"-" + noughts(20) + "1", 0, api.ErrLong},
		{"-" + noughts(1<<20), 0, api.ErrLong},
		// a byte that is none, and too long
		{"-a" + noughts(20), 0, api.ErrField}, {"-" + noughts(20) + "a", 0, api.ErrField}, {"--" + noughts(20), 0, api.ErrField},
		{"--" + noughts(19), 0, api.ErrField}, {noughts(20) + "-", 0, api.ErrField}, {"+" + noughts(20), 0, api.ErrField},
		{"-" + noughts(1<<20) + ":", 0, api.ErrField},
		// a byte that is none, and a number above the end
		{"-9223372036854775809a", 0, api.ErrField}, {"9223372036854775808a", 0, api.ErrField}, {"--9223372036854775809", 0, api.ErrField},
		{"-1844674407370955161a", 0, api.ErrField}, {"-99999999999999999999/", 0, api.ErrField},
		// too long, and a number above the end
		{"009223372036854775808", 0, api.ErrLong}, {"-009223372036854775809", 0, api.ErrLong},
		{"184467440737095516160", 0, api.ErrLong}, {"-184467440737095516160", 0, api.ErrLong},
		// all three
		{"999999999999999999999a", 0, api.ErrField}, {"-999999999999999999999a", 0, api.ErrField},
	})
}

// Promise 2.1: texts of all lengths, by big numbers, with a sign and without.
func TestReadingByBigNumbers(t *testing.T) {
	end := new(big.Int).Lsh(big.NewInt(1), 64)
	for _, v := range numbers() {
		text := new(big.Int).SetUint64(v).String()
		for _, s := range []string{text, "0" + text, text + "0", text + "9", "1" + text, text + text, noughts(max(0, 20-len(text))) + text} {
			n, _ := new(big.Int).SetString(s, 10)
			want := parsed{s, 0, api.OK}
			switch {
			case len(s) > 20:
				want.e = api.ErrLong
			case n.Cmp(end) >= 0:
				want.e = api.ErrRange
			default:
				want.n = n.Uint64()
			}
			checkParse(t, []parsed{want})
			checkSigned(t, []signed{wantSigned(s, want.e, n), wantSigned("-"+s, want.e, n.Neg(n))})
		}
	}
}

// wantSigned is what Signed is to answer for a text whose number is n, and whose digits Parse answers with e.
func wantSigned(s string, e api.Errno, n *big.Int) signed {
	switch {
	case e != api.OK:
		return signed{s, 0, e}
	case !n.IsInt64():
		return signed{s, 0, api.ErrRange}
	}
	return signed{s, n.Int64(), api.OK}
}

// Promise 2.2: what is written at the edges.
func TestTextAtEdges(t *testing.T) {
	for _, c := range []struct {
		v    uint64
		want string
	}{
		{0, "0"}, {1, "1"}, {9, "9"}, {10, "10"}, {11, "11"}, {99, "99"}, {100, "100"}, {101, "101"}, {1000, "1000"},
		{1<<32 - 1, "4294967295"}, {1 << 32, "4294967296"},
		{1<<63 - 1, "9223372036854775807"}, {1 << 63, "9223372036854775808"}, {1<<63 + 1, "9223372036854775809"},
		{9999999999999999999, "9999999999999999999"}, {1e19, "10000000000000000000"},
		{1<<64 - 2, "18446744073709551614"}, {1<<64 - 1, "18446744073709551615"},
	} {
		if got := Text(c.v); got != c.want {
			t.Errorf("Text(%d): %q, not %q", c.v, got, c.want)
		}
	}
}

// Promise 2.2: what is written with a sign at the edges.
func TestTextSignedAtEdges(t *testing.T) {
	for _, c := range []struct {
		v    int64
		want string
	}{
		{0, "0"}, {1, "1"}, {-1, "-1"}, {9, "9"}, {-9, "-9"}, {10, "10"}, {-10, "-10"}, {100, "100"}, {-100, "-100"},
		{math.MaxInt32, "2147483647"}, {math.MinInt32, "-2147483648"},
		{math.MaxInt64, "9223372036854775807"}, {math.MaxInt64 - 1, "9223372036854775806"},
		{math.MinInt64, "-9223372036854775808"}, {math.MinInt64 + 1, "-9223372036854775807"},
	} {
		if got := TextSigned(c.v); got != c.want {
			t.Errorf("TextSigned(%d): %q, not %q", c.v, got, c.want)
		}
	}
}

// Promise 2.2: what is written, by big numbers.
func TestWritingByBigNumbers(t *testing.T) {
	for _, v := range numbers() {
		if got, want := Text(v), new(big.Int).SetUint64(v).String(); got != want {
			t.Errorf("Text(%d): %q, not %q", v, got, want)
		}
		for _, s := range []int64{int64(v), -int64(v)} {
			if got, want := TextSigned(s), big.NewInt(s).String(); got != want {
				t.Errorf("TextSigned(%d): %q, not %q", s, got, want)
			}
		}
	}
}

// Promise 2.3: what is written is read as the number that it was.
func TestParseOfText(t *testing.T) {
	for _, v := range numbers() {
		checkParse(t, []parsed{{Text(v), v, api.OK}})
		checkSigned(t, []signed{{TextSigned(int64(v)), int64(v), api.OK}, {TextSigned(-int64(v)), -int64(v), api.OK}})
	}
}

// Promise 2.3: what is read is written as the text that it was, without its noughts ahead.
func TestTextOfParse(t *testing.T) {
	for _, v := range numbers() {
		bare := Text(v)
		for ahead := range 21 - len(bare) {
			s := noughts(ahead) + bare
			n, e := Parse(s)
			if back := Text(n); back != bare || e != api.OK {
				t.Errorf("Text(Parse(%q)): %q, error %d", s, back, e)
			}
		}
	}
	for n := 1; n <= 20; n++ {
		v, e := Parse(noughts(n))
		if back := Text(v); back != "0" || e != api.OK {
			t.Errorf("Text(Parse(%q)): %q, error %d", noughts(n), back, e)
		}
	}
}
