package clock

import (
	"math"
	"math/big"
	"testing"

	"tallboy/api"
)

// The last second that a clock can be at, a month, and the end beyond which there is none.
const (
	lastSecond = 2147483647
	month      = 2592000
	lastEnd    = 4294967295
)

// noSeconds are numbers that no clock can be at; the lowest 31 or 32 bits of many of them are a second.
var noSeconds = []int64{0, -1, -2, -1000, -month, math.MinInt32, math.MinInt32 - 1, -lastEnd, -1 << 32, -1<<32 + 1, -1<<32 + 1000,
	math.MinInt64, math.MinInt64 + 1, math.MinInt64 + 1000,
	1 << 31, 1<<31 + 1, 1<<31 + 1000, lastEnd - 1, lastEnd, 1 << 32, 1<<32 + 1, 1<<32 + 1000, 1<<62 + 1, 1 << 62, math.MaxInt64 - 1, math.MaxInt64}

// someSeconds are seconds that a clock can be at: the ends, and around what is a month from either.
var someSeconds = []int64{1, 2, 3, 1000, 65535, 65536, month - 1, month, month + 1, 1 << 30,
	lastSecond - month - 1, lastSecond - month, lastSecond - month + 1, lastSecond - 2, lastSecond - 1, lastSecond}

// someExps are times for which something may be kept: those at the edges, and some whose lowest 32 bits are others of them.
var someExps = []int64{0, -1, -2, -1000, -month, -month - 1, math.MinInt32, -lastEnd, -1 << 32, -1<<32 + 5, -1<<32 - 1, -1 << 62, math.MinInt64, math.MinInt64 + 1, math.MinInt64 + 5,
	1, 2, 5, 1000, month - 1, month, month + 1, month + 2, 3000000, 1 << 30, lastSecond - 1, lastSecond, 1 << 31, 1<<31 + 1,
	lastEnd - 1, lastEnd, 1 << 32, 1<<32 + 1, 1<<32 + 5, 1<<32 + month, 1 << 33, 1 << 40, 1<<40 + 5, 1 << 62, 1<<62 + 5, math.MaxInt64 - 1, math.MaxInt64}

// noise hands out numbers without order, the same ones each time.
func noise() func() uint64 {
	v := uint64(88172645463325252)
	return func() uint64 {
		v ^= v << 13
		v ^= v >> 7
		v ^= v << 17
		return v
	}
}

// anyNumber is a number of any size, near an edge as often as not.
func anyNumber(next func() uint64) int64 {
	edges := []int64{0, 1, month, lastSecond, lastEnd, 1 << 32, math.MaxInt64, math.MinInt64, -1 << 32, -lastSecond}
	if next()%2 == 0 {
		return edges[next()%uint64(len(edges))] + int64(next()%9) - 4
	}
	return int64(next()) >> (next() % 64)
}

// isIn tells whether a big number is from one to another.
func isIn(v *big.Int, from, to int64) bool {
	return v.Cmp(big.NewInt(from)) >= 0 && v.Cmp(big.NewInt(to)) <= 0
}

// wantEnds is Ends by the document's words, in big numbers, that have no end.
func wantEnds(now, exp int64) (*big.Int, api.Errno) {
	n, x := big.NewInt(now), big.NewInt(exp)
	if !isIn(n, 1, lastSecond) {
		return new(big.Int), api.ErrRange
	}
	if x.Sign() == 0 {
		return new(big.Int), api.OK
	}
	if x.Sign() < 0 {
		return big.NewInt(1), api.OK
	}
	if x.Cmp(big.NewInt(month)) <= 0 {
		return n.Add(n, x), api.OK
	}
	if x.Cmp(big.NewInt(lastEnd)) > 0 {
		return big.NewInt(lastEnd), api.OK
	}
	return x, api.OK
}

// wantGone is Gone by the document's words.
func wantGone(ends uint32, now int64) bool {
	e := new(big.Int).SetUint64(uint64(ends))
	return e.Sign() != 0 && e.Cmp(big.NewInt(now)) <= 0
}

func checkEnds(t *testing.T, now, exp int64) {
	t.Helper()
	want, wantE := wantEnds(now, exp)
	got, e := Ends(now, exp)
	if e != wantE || new(big.Int).SetUint64(uint64(got)).Cmp(want) != 0 {
		t.Errorf("Ends(%d, %d): %d, error %d, not %d, error %d", now, exp, got, e, want, wantE)
	}
}

func checkGone(t *testing.T, ends uint32, now int64) {
	t.Helper()
	if got := Gone(ends, now); got != wantGone(ends, now) {
		t.Errorf("Gone(%d, %d): %t", ends, now, got)
	}
}

// Promise 12.1: the chapter's example.
func TestExample(t *testing.T) {
	for _, c := range []struct {
		now, exp int64
		want     uint32
	}{{1000, 5, 1005}, {1000, 3000000, 3000000}, {1000, -1, 1}} {
		if got, e := Ends(c.now, c.exp); got != c.want || e != api.OK {
			t.Errorf("Ends(%d, %d): %d, error %d, not %d", c.now, c.exp, got, e, c.want)
		}
	}
	if Gone(1005, 1004) {
		t.Error("1005 is gone at 1004")
	}
	if !Gone(1005, 1005) {
		t.Error("1005 is not gone at 1005")
	}
}

// Promise 12.1: what Ends answers at the edges.
func TestEndsAtEdges(t *testing.T) {
	for _, c := range []struct {
		now, exp int64
		want     uint32
	}{
		{1, 0, 0}, {1000, 0, 0}, {2147483647, 0, 0},
		{1, -1, 1}, {2147483647, -1, 1}, {1000, math.MinInt64, 1}, {1000, math.MinInt64 + 5, 1}, {1000, -1 << 32, 1}, {1000, -1000, 1}, {1000, -999, 1}, {1000, -2592001, 1},
		{1, 1, 2}, {1000, 1, 1001}, {2147483647, 1, 2147483648},
		{1, 2591999, 2592000}, {1, 2592000, 2592001}, {1, 2592001, 2592001}, {1, 2592002, 2592002},
		{1000, 2591999, 2592999}, {1000, 2592000, 2593000}, {1000, 2592001, 2592001},
		{2592001, 2592000, 5184001}, {2592001, 2592001, 2592001},
		{2147483646, 2592000, 2150075646}, {2147483647, 2592000, 2150075647}, {2147483647, 2592001, 2592001},
		{1000, 2147483647, 2147483647}, {1000, 2147483648, 2147483648},
		{1000, 4294967294, 4294967294}, {1000, 4294967295, 4294967295}, {1000, 4294967296, 4294967295}, {1000, 4294967297, 4294967295},
		{1000, 4294967301, 4294967295}, {1000, 1 << 40, 4294967295}, {1, math.MaxInt64, 4294967295}, {2147483647, math.MaxInt64, 4294967295},
	} {
		if got, e := Ends(c.now, c.exp); got != c.want || e != api.OK {
			t.Errorf("Ends(%d, %d): %d, error %d, not %d", c.now, c.exp, got, e, c.want)
		}
	}
}

// Promise 12.1: a now that is no second is refused, whatever exp is: ahead of one that is nought or below it, of a short one, and of one that is too great.
func TestEndsRefusesNoSeconds(t *testing.T) {
	for _, now := range noSeconds {
		for _, exp := range someExps {
			if got, e := Ends(now, exp); got != 0 || e != api.ErrRange {
				t.Errorf("Ends(%d, %d): %d, error %d", now, exp, got, e)
			}
		}
	}
}

// Promise 12.1: Ends by big numbers, at each edge of now with each one of exp.
func TestEnds(t *testing.T) {
	for _, now := range append(append([]int64{}, noSeconds...), someSeconds...) {
		for _, exp := range someExps {
			checkEnds(t, now, exp)
		}
	}
}

// Promise 12.1: Ends by big numbers, of numbers without order.
func TestEndsWithoutOrder(t *testing.T) {
	next := noise()
	for range 100000 {
		checkEnds(t, anyNumber(next), anyNumber(next))
		checkEnds(t, 1+int64(next()%lastSecond), anyNumber(next))
		checkEnds(t, 1+int64(next()%lastSecond), int64(next()%(2*month)))
	}
}

// Promise 12.1: what Gone answers at the edges.
func TestGoneAtEdges(t *testing.T) {
	for _, c := range []struct {
		ends uint32
		now  int64
		want bool
	}{
		{0, 0, false}, {0, 1, false}, {0, -1, false}, {0, 1000, false}, {0, 2147483647, false}, {0, 4294967296, false}, {0, math.MaxInt64, false}, {0, math.MinInt64, false},
		{1, 0, false}, {1, 1, true}, {1, 2, true}, {1, 2147483647, true}, {1, -1, false}, {1, math.MinInt64, false}, {1, math.MaxInt64, true},
		{999, 1000, true}, {1000, 1000, true}, {1001, 1000, false}, {1000, -1000, false},
		{2147483646, 2147483647, true}, {2147483647, 2147483647, true}, {2147483648, 2147483647, false},
		{2147483647, 2147483648, true}, {2147483648, 2147483648, true}, {2147483649, 2147483648, false}, {2147483648, -2147483648, false},
		{4294967294, 4294967295, true}, {4294967295, 4294967295, true}, {4294967295, 4294967294, false}, {4294967295, 2147483647, false},
		{4294967295, -1, false}, {4294967294, -1, false}, {4294967295, 4294967296, true}, {4294967295, 0, false},
		{5, 4294967296, true}, {5, 4294967300, true}, {5, -4294967291, false}, {5, 1 << 40, true}, {5, -1 << 40, false},
		{4294967295, math.MaxInt64, true}, {4294967295, math.MinInt64, false}, {2147483648, math.MinInt64, false},
	} {
		if got := Gone(c.ends, c.now); got != c.want {
			t.Errorf("Gone(%d, %d): %t", c.ends, c.now, got)
		}
	}
}

// Promise 12.1: Gone by big numbers: of ends and of nows at the edges, and of ends at a now, one below it and one above it.
func TestGone(t *testing.T) {
	nows := append(append(append([]int64{}, noSeconds...), someSeconds...), someExps...)
	for _, now := range nows {
		for _, ends := range nows {
			checkGone(t, uint32(ends), now)
		}
		for by := int64(-1); by <= 1; by++ {
			checkGone(t, uint32(now), now+by)
		}
	}
	next := noise()
	for range 100000 {
		checkGone(t, uint32(anyNumber(next)), anyNumber(next))
		ends := uint32(next())
		for by := int64(-1); by <= 1; by++ {
			checkGone(t, ends, int64(ends)+by)
		}
	}
}

// begun is a clock that begins at a second.
func begun(t *testing.T, now int64) *Clock {
	t.Helper()
	c, e := New(now)
	if e != api.OK || c == nil {
		t.Fatalf("New(%d): error %d", now, e)
	}
	if got := c.Now(); got != now {
		t.Fatalf("New(%d): Now is %d", now, got)
	}
	return c
}

// tick lets n seconds go by, and tells what must be: the error, and the second behind it, asked for twice.
func tick(t *testing.T, c *Clock, n int, wantE api.Errno, want int64) {
	t.Helper()
	was := c.Now()
	if e := c.Tick(n); e != wantE {
		t.Errorf("Tick(%d) at %d: error %d, not %d", n, was, e, wantE)
	}
	for range 2 {
		if got := c.Now(); got != want {
			t.Fatalf("Tick(%d) at %d: Now is %d, not %d", n, was, got, want)
		}
	}
}

// Promise 12.2: New is at each second from the first one to the last one, and refuses all others, without a clock.
func TestNew(t *testing.T) {
	for _, now := range someSeconds {
		begun(t, now)
	}
	for _, now := range noSeconds {
		if c, e := New(now); c != nil || e != api.ErrRange {
			t.Errorf("New(%d): %v, error %d", now, c, e)
		}
	}
	next := noise()
	for range 10000 {
		now := anyNumber(next)
		c, e := New(now)
		if isIn(big.NewInt(now), 1, lastSecond) {
			if e != api.OK || c == nil || c.Now() != now {
				t.Errorf("New(%d): error %d", now, e)
			}
		} else if e != api.ErrRange || c != nil {
			t.Errorf("New(%d): %v, error %d", now, c, e)
		}
	}
}

// Promise 12.2: what Tick answers at the edges, and what Now is behind it.
func TestTickAtEdges(t *testing.T) {
	for _, c := range []struct {
		now  int64
		n    int
		e    api.Errno
		want int64
	}{
		{1, 0, api.OK, 1}, {1000, 0, api.OK, 1000}, {2147483647, 0, api.OK, 2147483647},
		{1, 1, api.OK, 2}, {1000, 5, api.OK, 1005}, {1, 2592000, api.OK, 2592001},
		{1, -1, api.ErrRange, 1}, {1000, -1, api.ErrRange, 1000}, {1000, -1000, api.ErrRange, 1000}, {2147483647, -1, api.ErrRange, 2147483647},
		{1000, math.MinInt32, api.ErrRange, 1000}, {1000, math.MinInt, api.ErrRange, 1000}, {1000, math.MinInt + 5, api.ErrRange, 1000}, {1, -1 << 32, api.ErrRange, 1},
		{1, 2147483645, api.OK, 2147483646}, {1, 2147483646, api.OK, 2147483647}, {1, 2147483647, api.ErrRange, 1}, {1, 2147483648, api.ErrRange, 1},
		{1000, 2147482646, api.OK, 2147483646}, {1000, 2147482647, api.OK, 2147483647}, {1000, 2147482648, api.ErrRange, 1000},
		{2147483646, 1, api.OK, 2147483647}, {2147483646, 2, api.ErrRange, 2147483646}, {2147483647, 1, api.ErrRange, 2147483647},
		{1000, 1 << 32, api.ErrRange, 1000}, {1000, 1<<32 + 5, api.ErrRange, 1000}, {1, math.MaxUint32, api.ErrRange, 1},
		{1, math.MaxInt, api.ErrRange, 1}, {1000, math.MaxInt - 999, api.ErrRange, 1000}, {2147483647, math.MaxInt, api.ErrRange, 2147483647}, {2147483647, math.MaxInt - 2147483646, api.ErrRange, 2147483647},
	} {
		tick(t, begun(t, c.now), c.n, c.e, c.want)
	}
}

// Promise 12.2: a Tick that is refused has changed nothing: the next one goes on from where the clock was.
func TestTickGoesOnBehindOneThatIsRefused(t *testing.T) {
	c := begun(t, 1000)
	tick(t, c, -1, api.ErrRange, 1000)
	tick(t, c, 5, api.OK, 1005)
	tick(t, c, math.MaxInt, api.ErrRange, 1005)
	tick(t, c, math.MinInt, api.ErrRange, 1005)
	tick(t, c, 0, api.OK, 1005)
	tick(t, c, lastSecond-1005+1, api.ErrRange, 1005)
	tick(t, c, lastSecond-1005-1, api.OK, lastSecond-1)
	tick(t, c, 2, api.ErrRange, lastSecond-1)
	tick(t, c, 1, api.OK, lastSecond)
	tick(t, c, 1, api.ErrRange, lastSecond)
	tick(t, c, -1, api.ErrRange, lastSecond)
	tick(t, c, 0, api.OK, lastSecond)
}

// Promise 12.2: many Ticks of several clocks, each held against its own second in big numbers.
func TestTicksWithoutOrder(t *testing.T) {
	next := noise()
	for round := range 300 {
		var clocks [3]*Clock
		var seconds [3]*big.Int
		for i := range clocks {
			now := someSeconds[(round+i)%len(someSeconds)]
			clocks[i], seconds[i] = begun(t, now), big.NewInt(now)
		}
		for range 100 {
			i := next() % 3
			n := anyNumber(next)
			if next()%4 == 0 {
				n = lastSecond - clocks[i].Now() + int64(next()%5) - 2
			}
			then := new(big.Int).Add(seconds[i], big.NewInt(n))
			want := api.ErrRange
			if n >= 0 && isIn(then, 1, lastSecond) {
				want, seconds[i] = api.OK, then
			}
			tick(t, clocks[i], int(n), want, seconds[i].Int64())
			for j, c := range clocks {
				if c.Now() != seconds[j].Int64() {
					t.Fatalf("Tick(%d) of clock %d: clock %d is at %d, not %d", n, i, j, c.Now(), seconds[j])
				}
			}
		}
	}
}

// Promise 12.3: what is to be kept for some seconds is not gone at any second ahead of them, and is gone at each one behind them, as a clock goes.
func TestKeptForSomeSeconds(t *testing.T) {
	for _, now := range []int64{1, 2, 1000, month, 1 << 30, lastSecond - 40} {
		for exp := 1; exp <= 20; exp++ {
			c := begun(t, now)
			ends, e := Ends(c.Now(), int64(exp))
			if e != api.OK {
				t.Fatalf("Ends(%d, %d): error %d", now, exp, e)
			}
			for by := range 40 {
				if got := Gone(ends, c.Now()); got != (by >= exp) {
					t.Errorf("kept for %d at %d: gone is %t %d seconds behind it", exp, now, got, by)
				}
				tick(t, c, 1, api.OK, now+int64(by)+1)
			}
		}
	}
}

// Promise 12.3: so it is of long times, too, up to the month, and of the second that a greater exp is.
func TestKeptForLong(t *testing.T) {
	for _, now := range someSeconds {
		for _, exp := range someExps {
			ends, e := Ends(now, exp)
			if e != api.OK {
				t.Fatalf("Ends(%d, %d): error %d", now, exp, e)
			}
			end := exp
			switch {
			case exp <= 0:
				continue
			case exp <= month:
				end = now + exp
			case exp > lastEnd:
				end = lastEnd
			}
			if Gone(ends, end-1) || !Gone(ends, end) || !Gone(ends, end+1) {
				t.Errorf("Ends(%d, %d): %d, gone is %t, %t, %t around %d", now, exp, ends, Gone(ends, end-1), Gone(ends, end), Gone(ends, end+1), end)
			}
			if exp <= month && Gone(ends, now) {
				t.Errorf("Ends(%d, %d): %d, and gone at once", now, exp, ends)
			}
		}
	}
}

// Promise 12.3: what is kept for ever is gone at no second, and what is gone at once is gone at each of them.
func TestKeptForEverOrNotAtAll(t *testing.T) {
	for _, now := range someSeconds {
		ever, e := Ends(now, 0)
		none, e2 := Ends(now, -1)
		if e != api.OK || e2 != api.OK {
			t.Fatalf("Ends(%d, ..): errors %d, %d", now, e, e2)
		}
		for _, then := range someSeconds {
			if Gone(ever, then) {
				t.Errorf("kept for ever at %d: gone at %d", now, then)
			}
			if !Gone(none, then) {
				t.Errorf("gone at once at %d: not gone at %d", now, then)
			}
		}
	}
}

// Promise 12.3: what is gone at some second is gone at each one behind it.
func TestGoneStaysGone(t *testing.T) {
	next := noise()
	for range 20000 {
		now := 1 + int64(next()%lastSecond)
		ends, e := Ends(now, anyNumber(next))
		if e != api.OK {
			t.Fatalf("Ends(%d, ..): error %d", now, e)
		}
		c := begun(t, now)
		gone := false
		for range 20 {
			was := gone
			gone = Gone(ends, c.Now())
			if was && !gone {
				t.Fatalf("what ends at %d is gone no longer at %d", ends, c.Now())
			}
			if gone != wantGone(ends, c.Now()) {
				t.Fatalf("what ends at %d: gone is %t at %d", ends, gone, c.Now())
			}
			// Error or not: a clock that is at its end stays there.
			c.Tick(int(next() % (1 << (next() % 31))))
		}
	}
}
