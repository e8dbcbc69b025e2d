package conn

import (
	"fmt"
	"math"
	"reflect"
	"slices"
	"strings"
	"testing"

	"tallboy/api"
	"tallboy/line"
)

// never is a place behind all bytes that come.
const never = math.MaxInt

// part is a thing that a whole text asks for, by the document's words: all its numbers are places in that text.
type part struct {
	ask   Ask
	head  int  // where the line ends of a command that waits for its bytes; 0 of another part
	whole int  // so many bytes must have come for it to be told
	taken int  // so many have been taken then, if as many have come
	next  int  // where the next part begins; what lies between is swallowed
	known bool // how many these are is known
}

// wantParts is what a text asks for, by the document's words, that ask nothing of pieces.
func wantParts(s string) []part {
	var list []part
	for at := 0; at < len(s); at = list[len(list)-1].next {
		end := lineFeedFrom(s, at)
		if end-at >= 162 {
			if len(s)-at >= 162 {
				list = append(list, part{ask: Ask{Verdict: 9}, whole: at + 162, taken: behind(end), next: behind(end)})
			}
			if len(s)-at < 162 || end == never {
				break
			}
			continue
		}
		p := line.Parse(strings.TrimSuffix(s[at:end], "\r"))
		if p.Verdict != 2 {
			list = append(list, part{ask: Ask{p.Verdict, p.C}, whole: end + 1, taken: end + 1, next: end + 1 + p.Swallow, known: true})
			continue
		}
		list = append(list, wantValue(s, end+1, p))
	}
	return list
}

// wantValue is the part of a command whose line ends at a place.
func wantValue(s string, at int, p line.Parsed) part {
	to := at + p.Bytes + 2
	x := part{head: at, whole: to, taken: to, next: to, known: true}
	switch {
	case to > len(s): // it is never told
	case s[to-2:to] == "\r\n":
		x.ask = Ask{1, p.C}
		x.ask.C.Value = s[at : to-2]
	case s[to-1] == '\n':
		x.ask = Ask{Verdict: 5}
	default:
		x.ask = Ask{Verdict: 5}
		x.next, x.known = behind(lineFeedFrom(s, to)), false
	}
	return x
}

// lineFeedFrom is where the first line feed stands from a place on; never, if there is none.
func lineFeedFrom(s string, at int) int {
	if i := strings.IndexByte(s[at:], '\n'); i >= 0 {
		return at + i
	}
	return never
}

// behind is the place behind another one.
func behind(at int) int {
	if at == never {
		return never
	}
	return at + 1
}

// want is a connection by the document's words, that gets a text that is known ahead.
type want struct {
	parts []part
	i     int  // how many parts have been told
	come  int  // how many bytes have come
	at    int  // how many of them have been taken
	to    int  // what stands ahead of this place is to be swallowed, if it is not taken
	known bool // how many these are is known
}

// feed is Feed of so many bytes more.
func (w *want) feed(n int) api.Errno {
	if w.come-w.at+n > 65536 {
		return 2
	}
	w.come += n
	return 0
}

// next is Next.
func (w *want) next() (Ask, bool) {
	w.at = max(w.at, min(w.come, w.to))
	if w.at < w.to || w.i == len(w.parts) {
		return Ask{}, false
	}
	p := w.parts[w.i]
	if w.come < p.whole {
		if w.come >= p.head {
			w.at = max(w.at, p.head)
		}
		return Ask{}, false
	}
	w.at, w.to, w.known = min(w.come, p.taken), p.next, p.known
	w.i++
	return p.ask, true
}

// left is Left.
func (w *want) left() (int, int) {
	if w.known && w.to > w.at {
		return w.come - w.at, w.to - w.at
	}
	return w.come - w.at, 0
}

// same tells whether two things that are asked for are the same, a list without keys being as good as none.
func same(a, b Ask) bool {
	if len(a.C.Keys) == 0 && len(b.C.Keys) == 0 {
		a.C.Keys, b.C.Keys = nil, nil
	}
	return reflect.DeepEqual(a, b)
}

// short is something in writing, not all of it if it is long.
func short(x any) string { return fmt.Sprintf("%.300s", fmt.Sprintf("%+v", x)) }

// pair is a connection, and what it is held against, with the same bytes.
type pair struct {
	t    *testing.T
	s    string
	c    *Conn
	w    *want
	list []Ask // all that was told
}

// newPair has no bytes of the text as yet.
func newPair(t *testing.T, s string) *pair {
	return &pair{t: t, s: s, c: New(), w: &want{parts: wantParts(s)}}
}

// fail tells where in the text something went wrong.
func (p *pair) fail(what string) {
	p.t.Helper()
	p.t.Fatalf("%s: %d bytes of %.400q came, %d things were told: %s", what, p.w.come, p.s, len(p.list), short(p.list))
}

// feed lays the text's next bytes in.
func (p *pair) feed(n int) {
	p.t.Helper()
	from := p.w.come
	e := p.c.Feed([]byte(p.s[from : from+n]))
	if wanted := p.w.feed(n); e != wanted {
		p.fail(fmt.Sprintf("Feed of %d bytes more: error %d, not %d", n, e, wanted))
	}
	p.left()
}

// next holds one Next against the document's words.
func (p *pair) next() bool {
	p.t.Helper()
	ask, ok := p.c.Next()
	if wanted, is := p.w.next(); !same(ask, wanted) || ok != is {
		p.fail(fmt.Sprintf("Next: %s, %v, not %s, %v", short(ask), ok, short(wanted), is))
	}
	if ok {
		p.list = append(p.list, ask)
	}
	p.left()
	return ok
}

// left holds Left against the document's words.
func (p *pair) left() {
	p.t.Helper()
	n, swallow := p.c.Left()
	if there, yet := p.w.left(); n != there || swallow != yet {
		p.fail(fmt.Sprintf("Left: %d, %d, not %d, %d", n, swallow, there, yet))
	}
}

// all calls Next till it tells nothing, and once more.
func (p *pair) all() {
	p.t.Helper()
	for p.next() {
	}
	p.next()
}

// told holds all that was told against the document's words, once the whole text has come.
func (p *pair) told() {
	p.t.Helper()
	p.all()
	var wanted []Ask
	for _, x := range wantParts(p.s) {
		if x.whole <= len(p.s) {
			wanted = append(wanted, x.ask)
		}
	}
	if !slices.EqualFunc(p.list, wanted, same) {
		p.fail("not all was told: " + short(wanted))
	}
}

// atOnce feeds a text whole, and then asks.
func atOnce(t *testing.T, s string) *pair {
	t.Helper()
	p := newPair(t, s)
	p.feed(len(s))
	p.told()
	return p
}

// cut feeds a text in pieces that end at these places, and asks for all there is behind each one, or behind the last one alone.
func cut(t *testing.T, s string, each bool, places ...int) *pair {
	t.Helper()
	p := newPair(t, s)
	for _, at := range append(places, len(s)) {
		p.feed(at - p.w.come)
		if each {
			p.all()
		}
	}
	p.told()
	return p
}

// byBytes feeds a text byte by byte, with Next as often behind each of them; less than nought: as often as it tells something.
func byBytes(t *testing.T, s string, often int) *pair {
	t.Helper()
	p := newPair(t, s)
	for range len(s) {
		p.feed(1)
		for range often {
			p.next()
		}
		if often < 0 {
			p.all()
		}
	}
	p.told()
	return p
}

// inAllWays feeds a text in many pieces, and holds what is told against answers that are written out.
func inAllWays(t *testing.T, s string, wanted ...Ask) {
	t.Helper()
	list := []*pair{atOnce(t, s), byBytes(t, s, 0), byBytes(t, s, 1), byBytes(t, s, -1)}
	step := 1 + len(s)/600
	for at := 0; at <= len(s); at += step {
		list = append(list, cut(t, s, true, at), cut(t, s, false, at))
	}
	for _, p := range list {
		if !slices.EqualFunc(p.list, wanted, same) {
			p.fail("it was to be told: " + short(wanted))
		}
	}
}

// leftIs holds Left against numbers that are written out.
func leftIs(t *testing.T, c *Conn, there, swallow int) {
	t.Helper()
	if n, yet := c.Left(); n != there || yet != swallow {
		t.Errorf("Left: %d, %d, not %d, %d", n, yet, there, swallow)
	}
}

// feedIs holds Feed against an error that is written out.
func feedIs(t *testing.T, c *Conn, s string, wanted api.Errno) {
	t.Helper()
	if e := c.Feed([]byte(s)); e != wanted {
		t.Errorf("Feed of %.40q, %d bytes: error %d, not %d", s, len(s), e, wanted)
	}
}

// nextIs holds Next against a thing that is written out.
func nextIs(t *testing.T, c *Conn, wanted Ask) {
	t.Helper()
	if ask, ok := c.Next(); !ok || !same(ask, wanted) {
		t.Errorf("Next: %s, %v, not %s", short(ask), ok, short(wanted))
	}
}

// nextIsNone holds Next against none.
func nextIsNone(t *testing.T, c *Conn) {
	t.Helper()
	if ask, ok := c.Next(); ok || !reflect.DeepEqual(ask, Ask{}) {
		t.Errorf("Next: %s, %v, not none", short(ask), ok)
	}
}

// get is a Get of keys.
func get(keys ...string) Ask { return Ask{line.Ready, api.Command{Kind: api.Get, Keys: keys}} }

// set is a Set of k.
func set(value string) Ask {
	return Ask{line.Ready, api.Command{Kind: api.Set, Keys: []string{"k"}, Value: value}}
}

// no is a verdict alone.
func no(verdict int) Ask { return Ask{Verdict: verdict} }

// tooBig is a Set of k whose value is too big.
func tooBig() Ask {
	return Ask{line.TooBig, api.Command{Kind: api.Set, Keys: []string{"k"}}}
}

// long is so many bytes without a line feed.
func long(n int) string { return strings.Repeat("x", n) }

// wide is a get of k in so many bytes.
func wide(n int) string { return "get k" + strings.Repeat(" ", n-5) }

// Promise 19.2: the chapter's examples.
func TestExamples(t *testing.T) {
	inAllWays(t, "set k 0 0 3\r\nabc\r\nget k\r\n", set("abc"), get("k"))
	inAllWays(t, "set k 0 0 3\r\nabcd\r\nget k\r\n", no(line.BadChunk), get("k"))
}

// Promise 19.1: New has no bytes, and asks for nothing.
func TestNew(t *testing.T) {
	c := New()
	leftIs(t, c, 0, 0)
	nextIsNone(t, c)
	leftIs(t, c, 0, 0)
	nextIsNone(t, c)
	if New() == c {
		t.Error("New handed one connection out twice")
	}
}

// Promise 19.1: bytes that make just 2^16, and one more; then nothing is laid in.
func TestFull(t *testing.T) {
	full := strings.Repeat("get k\r\n", 9362) + "\r\n"
	if len(full) != 65536 {
		t.Fatalf("the test is wrong: %d bytes", len(full))
	}
	for _, at := range []int{0, 1, 7, 65535, 65536} {
		c := New()
		feedIs(t, c, full[:at], api.OK)
		leftIs(t, c, at, 0)
		feedIs(t, c, full[at:]+"x", api.ErrFull)
		leftIs(t, c, at, 0)
		feedIs(t, c, strings.Repeat(full, 64), api.ErrFull)
		leftIs(t, c, at, 0)
		feedIs(t, c, full[at:], api.OK)
		leftIs(t, c, 65536, 0)
		feedIs(t, c, "", api.OK)
		feedIs(t, c, "x", api.ErrFull)
		feedIs(t, c, full, api.ErrFull)
		leftIs(t, c, 65536, 0)
		for i := range 9362 {
			nextIs(t, c, get("k"))
			leftIs(t, c, 65536-7*(i+1), 0)
		}
		nextIs(t, c, no(line.BadCommand))
		nextIsNone(t, c)
		leftIs(t, c, 0, 0)
		feedIs(t, c, full, api.OK)
		leftIs(t, c, 65536, 0)
	}
}

// Promise 19.1: what was taken makes room again, just as much.
func TestRoomAgain(t *testing.T) {
	c := New()
	feedIs(t, c, "get k\r\nget a\nset k 0 0 3\r\nabc\r\n"+long(65536-31), api.OK)
	for _, x := range []struct {
		size int
		ask  Ask
	}{{7, get("k")}, {6, get("a")}, {18, set("abc")}} {
		feedIs(t, c, "x", api.ErrFull)
		nextIs(t, c, x.ask)
		leftIs(t, c, 65536-x.size, 0)
		feedIs(t, c, long(x.size+1), api.ErrFull)
		leftIs(t, c, 65536-x.size, 0)
		feedIs(t, c, long(x.size), api.OK)
		leftIs(t, c, 65536, 0)
	}
	nextIs(t, c, no(line.TooLong))
	leftIs(t, c, 0, 0)
	feedIs(t, c, long(65536), api.OK)
	feedIs(t, c, "\n", api.ErrFull)
	nextIsNone(t, c)
	leftIs(t, c, 0, 0)
	feedIs(t, c, "\nget k\n", api.OK)
	nextIs(t, c, get("k"))
	leftIs(t, c, 0, 0)
}

// Promise 19.1: bytes that are to be swallowed are there till Next takes them, and count.
func TestFullOfWhatIsToBeSwallowed(t *testing.T) {
	c := New()
	feedIs(t, c, "set k 0 0 100000\r\n"+long(65536-18), api.OK)
	nextIs(t, c, tooBig())
	leftIs(t, c, 65536-18, 100002)
	feedIs(t, c, long(19), api.ErrFull)
	feedIs(t, c, long(18), api.OK)
	leftIs(t, c, 65536, 100002)
	feedIs(t, c, "x", api.ErrFull)
	nextIsNone(t, c)
	leftIs(t, c, 0, 100002-65536)
	feedIs(t, c, long(100002-65536)+"get k\r\n"+long(31063), api.OK)
	leftIs(t, c, 65536, 100002-65536)
	feedIs(t, c, "x", api.ErrFull)
	nextIs(t, c, get("k"))
	leftIs(t, c, 31063, 0)
	nextIs(t, c, no(line.TooLong))
	leftIs(t, c, 0, 0)
}

// Promise 19.1: Feed of no bytes changes nothing.
func TestFeedOfNoBytes(t *testing.T) {
	c := New()
	for _, s := range []string{"", "set k 0 0 3\r\n", "abcd", "e\nset k 0 0 2001\n", "f"} {
		feedIs(t, c, s, api.OK)
		for range 3 {
			there, swallow := c.Left()
			if e := c.Feed(nil); e != api.OK {
				t.Errorf("Feed of nil: error %d", e)
			}
			if e := c.Feed([]byte{}); e != api.OK {
				t.Errorf("Feed of no bytes: error %d", e)
			}
			leftIs(t, c, there, swallow)
			c.Next()
		}
	}
	leftIs(t, c, 0, 2002)
}

// Promise 19.2: lines, and their ends: a line feed alone, a carriage return alone, several of them.
func TestLines(t *testing.T) {
	none := no(line.BadCommand)
	for _, x := range []struct {
		s    string
		list []Ask
	}{
		{"", nil},
		{"\n", []Ask{none}},
		{"\r", nil},
		{"\r\n", []Ask{none}},
		{"\r\r\n", []Ask{none}},
		{"\n\n", []Ask{none, none}},
		{"\n\r", []Ask{none}},
		{"\n\rget k\n", []Ask{none, none}},
		{"get k", nil},
		{"get k\r", nil},
		{"get k\n", []Ask{get("k")}},
		{"get k\r\n", []Ask{get("k")}},
		{"get k\r\r\n", []Ask{no(line.BadLine)}},
		{"get k\rget k\r\n", []Ask{no(line.BadLine)}},
		{"get k\r \r\n", []Ask{no(line.BadLine)}},
		{"\rget k\r\n", []Ask{none}},
		{" get  k \r\n", []Ask{get("k")}},
		{"get a b\r\nget c\nflush_all\r\n", []Ask{get("a", "b"), get("c"), {line.Ready, api.Command{Kind: api.Flush}}}},
		{"GET k\r\nget\r\nget \x00\r\nget k\x00\r\n\x00\r\n", []Ask{none, none, no(line.BadLine), no(line.BadLine), none}},
		{"incr k 5 noreply\r\n", []Ask{{line.Ready, api.Command{Kind: api.Incr, Keys: []string{"k"}, Delta: 5, Quiet: true}}}},
		{"incr k x\r\ntouch k x\r\ngat 5 k\n", []Ask{no(line.BadDelta), no(line.BadExp), {line.Ready, api.Command{Kind: api.Gat, Keys: []string{"k"}, Exp: 5}}}},
		{"set\r\nabc\r\n", []Ask{none, none}},
	} {
		inAllWays(t, x.s, x.list...)
	}
}

// Promise 19.2: lines of about as many bytes as they may have, with their carriage return and without.
func TestLongLines(t *testing.T) {
	tooLong := no(line.TooLong)
	for _, x := range []struct {
		s   string
		ask Ask
	}{
		{wide(159) + "\n", get("k")},
		{wide(159) + "\r\n", get("k")},
		{wide(160) + "\n", get("k")},
		{wide(160) + "\r\n", get("k")},
		{wide(161) + "\n", tooLong},
		{wide(161) + "\r\n", tooLong},
		{wide(162) + "\n", tooLong},
		{wide(162) + "\r\n", tooLong},
		{wide(163) + "\n", tooLong},
		{wide(159) + "\r\r\n", no(line.BadLine)},
		{wide(160) + "\r\r\n", tooLong},
		{wide(1000) + "\r\n", tooLong},
		{long(160) + "\r\n", no(line.BadCommand)},
		{long(161) + "\n", tooLong},
		{long(162) + "\n", tooLong},
		{strings.Repeat("\r", 160) + "\n", no(line.BadCommand)},
		{strings.Repeat("\r", 161) + "\n", no(line.BadCommand)},
		{strings.Repeat("\r", 162) + "\n", tooLong},
		{strings.Repeat("\r", 163) + "\n", tooLong},
		{strings.Repeat("\x00", 162) + "\n", tooLong},
	} {
		inAllWays(t, x.s, x.ask)
		inAllWays(t, x.s+"get a\r\n", x.ask, get("a"))
		inAllWays(t, "get b\n"+x.s+x.s+"get a\n", get("b"), x.ask, x.ask, get("a"))
	}
}

// Promise 19.2: 161 bytes without a line feed, and 162, and what comes behind them.
func TestOpenLines(t *testing.T) {
	inAllWays(t, long(161))
	inAllWays(t, wide(160)+"\r")
	inAllWays(t, long(162), no(line.TooLong))
	inAllWays(t, wide(161)+"\r", no(line.TooLong))
	inAllWays(t, long(162)+"get k\r\nget a\r\n", no(line.TooLong), get("a"))
	inAllWays(t, long(162)+"\r\nget a\r\n", no(line.TooLong), get("a"))
	inAllWays(t, long(162)+"\nget a\r\n", no(line.TooLong), get("a"))
	inAllWays(t, long(162)+long(2000)+"\n\nget a\r\n", no(line.TooLong), no(line.BadCommand), get("a"))
	inAllWays(t, long(162)+long(2000), no(line.TooLong))
	inAllWays(t, long(162)+"set k 0 0 3\r\nabc\r\n", no(line.TooLong), no(line.BadCommand))

	c := New()
	feedIs(t, c, long(161), api.OK)
	nextIsNone(t, c)
	leftIs(t, c, 161, 0)
	feedIs(t, c, "x", api.OK)
	leftIs(t, c, 162, 0)
	nextIs(t, c, no(line.TooLong))
	leftIs(t, c, 0, 0)
	nextIsNone(t, c)
	feedIs(t, c, long(500), api.OK)
	leftIs(t, c, 500, 0)
	nextIsNone(t, c)
	leftIs(t, c, 0, 0)
	feedIs(t, c, "get b\nget a\n", api.OK)
	leftIs(t, c, 12, 0)
	nextIs(t, c, get("a"))
	leftIs(t, c, 0, 0)

	c = New()
	feedIs(t, c, long(65536), api.OK)
	nextIs(t, c, no(line.TooLong))
	leftIs(t, c, 0, 0)
	feedIs(t, c, "\n"+wide(160)+"\r", api.OK)
	nextIsNone(t, c)
	leftIs(t, c, 161, 0)
	feedIs(t, c, "\n", api.OK)
	nextIs(t, c, get("k"))
	leftIs(t, c, 0, 0)
}

// Promise 19.2: values of no bytes, of 2000, and of 2001; of line feeds, carriage returns, lines, and all bytes.
func TestValues(t *testing.T) {
	var each []byte
	for b := range 256 {
		each = append(each, byte(b))
	}
	for _, v := range []string{"", "a", "ab", "abc", "\n", "\r", "\r\n", "\n\n", "\r\r\n", "\n\r", "a\r\nget a\r\n", "get a\r\n", "set k 0 0 3\r\nabc\r\n", "\x00", "\xff\xfe", "é", " a ", string(each), strings.Repeat("\n", 161), long(161), long(162), long(163), strings.Repeat("\r\n", 100), long(1999), long(2000), strings.Repeat("\n", 2000), strings.Repeat("\r\n", 1000)} {
		for _, end := range []string{"\n", "\r\n"} {
			s := fmt.Sprintf("set k 0 0 %d%s%s\r\n", len(v), end, v)
			inAllWays(t, s, set(v))
			inAllWays(t, s+"get k\r\n"+s, set(v), get("k"), set(v))
		}
	}
	big := "set k 0 0 2001\r\n" + long(2001) + "\r\n"
	inAllWays(t, big+"get k\r\n", tooBig(), get("k"))
}

// Promise 19.2: each kind that stores waits for its bytes, with all that its line says.
func TestKindsThatStore(t *testing.T) {
	k := []string{"key"}
	for _, x := range []struct {
		s string
		c api.Command
	}{
		{"set key 5 6 3", api.Command{Kind: api.Set, Keys: k, Flags: 5, Exp: 6, Value: "abc"}},
		{"add key 5 -6 3 noreply", api.Command{Kind: api.Add, Keys: k, Flags: 5, Exp: -6, Value: "abc", Quiet: true}},
		{"replace key 4294967295 0 3", api.Command{Kind: api.Replace, Keys: k, Flags: math.MaxUint32, Value: "abc"}},
		{"append key 5 6 3", api.Command{Kind: api.Append, Keys: k, Value: "abc"}},
		{"prepend key 5 6 3 noreply", api.Command{Kind: api.Prepend, Keys: k, Value: "abc", Quiet: true}},
		{"cas key 5 6 3 18446744073709551615", api.Command{Kind: api.Cas, Keys: k, Flags: 5, Exp: 6, Value: "abc", Cas: math.MaxUint64}},
		{"set key 0 0 03", api.Command{Kind: api.Set, Keys: k, Value: "abc"}},
		{"set key 0 0 3" + strings.Repeat(" ", 147), api.Command{Kind: api.Set, Keys: k, Value: "abc"}},
	} {
		inAllWays(t, x.s+"\r\nabc\r\n", Ask{line.Ready, x.c})
		inAllWays(t, x.s+"\r\nabcd\r\n"+x.s+"\nabc\r\n", no(line.BadChunk), Ask{line.Ready, x.c})
		inAllWays(t, x.s+"\r\nab\r\nget k\r\nget a\r\n", no(line.BadChunk), get("a"))
	}
	inAllWays(t, "set key 0 0 3"+strings.Repeat(" ", 148)+"\r\nabc\r\n", no(line.TooLong), no(line.BadCommand))
}

// Promise 19.2: a value that comes byte by byte, with Next called after each: none, till the last one has come.
func TestValueByBytes(t *testing.T) {
	for _, v := range []string{"", "a", "a\r\nb\n", long(170), long(2000)} {
		c := New()
		feedIs(t, c, fmt.Sprintf("set k 0 0 %d\r\n", len(v)), api.OK)
		for i, b := range []byte(v + "\r\n") {
			nextIsNone(t, c)
			leftIs(t, c, i, 0)
			nextIsNone(t, c)
			feedIs(t, c, string(b), api.OK)
			leftIs(t, c, i+1, 0)
		}
		nextIs(t, c, set(v))
		leftIs(t, c, 0, 0)
		nextIsNone(t, c)
	}
}

// Promise 19.2: two bytes behind a value that are not CRLF: with a line feed as the last of them nothing more is swallowed, without it the rest of the line is.
func TestBadEnds(t *testing.T) {
	chunk := no(line.BadChunk)
	for _, x := range []struct {
		end  string
		list []Ask
	}{
		{"d\n", []Ask{chunk, get("k"), get("a")}},
		{"\n\n", []Ask{chunk, get("k"), get("a")}},
		{"\x00\n", []Ask{chunk, get("k"), get("a")}},
		{"\n\r", []Ask{chunk, get("a")}},
		{"\r\r", []Ask{chunk, get("a")}},
		{"\rd", []Ask{chunk, get("a")}},
		{"\nd", []Ask{chunk, get("a")}},
		{"de", []Ask{chunk, get("a")}},
		{"de\n", []Ask{chunk, get("k"), get("a")}},
		{"de\r\n", []Ask{chunk, get("k"), get("a")}},
		{"\r\r\n", []Ask{chunk, get("k"), get("a")}},
		{"\n\n\n", []Ask{chunk, no(line.BadCommand), get("k"), get("a")}},
		{"d\r\n", []Ask{chunk, get("k"), get("a")}},
		{"de" + long(1000) + "\n", []Ask{chunk, get("k"), get("a")}},
		{"de\n\n", []Ask{chunk, no(line.BadCommand), get("k"), get("a")}},
	} {
		for _, v := range []string{"", "abc", "a\r\n", long(2000)} {
			head := fmt.Sprintf("set k 0 0 %d\r\n", len(v))
			inAllWays(t, head+v+x.end+"get k\r\nget a\r\n", x.list...)
		}
	}
	for _, last := range []int{'\n', 'd', '\r', 0, 9, 11, 12, 14, 255} {
		for first := range 256 {
			if first == '\r' && last == '\n' {
				continue
			}
			c := New()
			feedIs(t, c, "set k 0 0 1\nv"+string([]byte{byte(first), byte(last)})+"get k\nget a\n", api.OK)
			nextIs(t, c, chunk)
			leftIs(t, c, 12, 0)
			if last == '\n' {
				nextIs(t, c, get("k"))
			}
			nextIs(t, c, get("a"))
			nextIsNone(t, c)
		}
	}
}

// Promise 19.2: what is swallowed of a length that is too big, over several Feeds.
func TestSwallowOfWhatIsTooBig(t *testing.T) {
	c := New()
	feedIs(t, c, "set k 0 0 9999\r\n", api.OK)
	leftIs(t, c, 16, 0)
	nextIs(t, c, tooBig())
	leftIs(t, c, 0, 10001)
	nextIsNone(t, c)
	leftIs(t, c, 0, 10001)
	feedIs(t, c, "get k\r\n", api.OK)
	leftIs(t, c, 7, 10001)
	nextIsNone(t, c)
	leftIs(t, c, 0, 9994)
	feedIs(t, c, long(9000), api.OK)
	feedIs(t, c, "\n", api.OK)
	leftIs(t, c, 9001, 9994)
	nextIsNone(t, c)
	leftIs(t, c, 0, 993)
	feedIs(t, c, long(992), api.OK)
	nextIsNone(t, c)
	leftIs(t, c, 0, 1)
	feedIs(t, c, "x", api.OK)
	leftIs(t, c, 1, 1)
	nextIsNone(t, c)
	leftIs(t, c, 0, 0)
	feedIs(t, c, "get k\r\n", api.OK)
	nextIs(t, c, get("k"))
	leftIs(t, c, 0, 0)

	inAllWays(t, "set k 0 0 9999\r\n"+long(10001)+"get k\r\n", tooBig(), get("k"))
	inAllWays(t, "set k 0 0 2001 noreply\n"+strings.Repeat("get b\n", 333)+"1234\nget k\r\n", Ask{line.TooBig, api.Command{Kind: api.Set, Keys: []string{"k"}, Quiet: true}}, get("k"))
	inAllWays(t, "cas k 5 6 2001 7\r\n"+long(2003)+"get k\r\n", Ask{line.TooBig, api.Command{Kind: api.Cas, Keys: []string{"k"}}}, get("k"))
}

// Promise 19.2: the greatest length of which it is known how many bytes come, and the first one of which it is not.
func TestSwallowOfVeryMuch(t *testing.T) {
	c := New()
	feedIs(t, c, "set k 0 0 2147483647\r\nget k\r\n", api.OK)
	nextIs(t, c, tooBig())
	leftIs(t, c, 7, 2147483649)
	nextIsNone(t, c)
	leftIs(t, c, 0, 2147483642)
	piece := []byte(long(65536))
	for left := 2147483642; left > 0; {
		n := min(left, len(piece))
		if e := c.Feed(piece[:n]); e != api.OK {
			t.Fatalf("Feed, with %d to be swallowed: error %d", left, e)
		}
		nextIsNone(t, c)
		left -= n
		leftIs(t, c, 0, left)
		if t.Failed() {
			t.FailNow()
		}
	}
	feedIs(t, c, "get k\n", api.OK)
	nextIs(t, c, get("k"))
	inAllWays(t, "set k 0 0 2147483648\r\nget k\r\n", tooBig(), get("k"))
}

// Promise 19.2: what is swallowed of a line that is refused, over several Feeds.
func TestSwallowOfWhatIsRefused(t *testing.T) {
	for _, x := range []struct {
		s       string
		verdict int
		swallow int
	}{
		{"set k x 0 3", line.BadLine, 5},
		{"set k 0 x 3", line.BadExp, 5},
		{"set k\x7f 0 0 0", line.BadLine, 2},
		{"cas k 0 0 3 x", line.BadLine, 5},
		{"set k x 0 2000", line.BadLine, 2002},
		{"set k x 0 5000", line.BadLine, 5002},
		{"append k 4294967296 0 3", line.BadLine, 5},
		{"set k 0 0 x", line.BadChunk, 0},
		{"set k 0 0 -1", line.BadChunk, 0},
		{"set k x 0 2147483648", line.BadLine, 0},
		{"set k 0 0 3 x", line.BadCommand, 0},
		{"set k 0 0", line.BadCommand, 0},
		{"incr k x", line.BadDelta, 0},
	} {
		body := strings.Repeat("get b\r\n", 1+x.swallow/7)[:x.swallow]
		inAllWays(t, x.s+"\r\n"+body+"get k\r\n", no(x.verdict), get("k"))
		c := New()
		feedIs(t, c, x.s+"\r\n"+body+"get k\n", api.OK)
		nextIs(t, c, no(x.verdict))
		leftIs(t, c, x.swallow+6, x.swallow)
		nextIs(t, c, get("k"))
		leftIs(t, c, 0, 0)

		c = New()
		feedIs(t, c, x.s+"\n", api.OK)
		nextIs(t, c, no(x.verdict))
		for left := x.swallow; left > 0; left-- {
			leftIs(t, c, 0, left)
			feedIs(t, c, "\n", api.OK)
			leftIs(t, c, 1, left)
			nextIsNone(t, c)
		}
		leftIs(t, c, 0, 0)
		feedIs(t, c, "get k\n", api.OK)
		nextIs(t, c, get("k"))
	}
}

// Promise 19.2: Left in each state in which a connection can be.
func TestLeft(t *testing.T) {
	c := New()
	feedIs(t, c, "get", api.OK) // a line that is not there whole
	leftIs(t, c, 3, 0)
	nextIsNone(t, c)
	leftIs(t, c, 3, 0)
	feedIs(t, c, " k\r\nset k 0 0 3\r\nab", api.OK) // a line, and one that will wait
	leftIs(t, c, 22, 0)
	nextIs(t, c, get("k"))
	leftIs(t, c, 15, 0)
	nextIsNone(t, c) // it waits: its line is taken, what it waits for is not to be swallowed
	leftIs(t, c, 2, 0)
	feedIs(t, c, "cde", api.OK) // enough, and no end of a value
	leftIs(t, c, 5, 0)
	nextIs(t, c, no(line.BadChunk)) // the rest of the line is to be swallowed, and not known
	leftIs(t, c, 0, 0)
	feedIs(t, c, "fgh", api.OK)
	leftIs(t, c, 3, 0)
	nextIsNone(t, c)
	leftIs(t, c, 0, 0)
	feedIs(t, c, "i\r\nset k x 0 3\r\nab", api.OK) // its line feed, and a line that is refused
	leftIs(t, c, 18, 0)
	nextIs(t, c, no(line.BadLine))
	leftIs(t, c, 2, 5)
	nextIsNone(t, c)
	leftIs(t, c, 0, 3)
	feedIs(t, c, "c\r\n"+long(162), api.OK)
	leftIs(t, c, 165, 3)
	nextIs(t, c, no(line.TooLong))
	leftIs(t, c, 0, 0)
	feedIs(t, c, long(200)+"\nset k 0 0 0\n\r", api.OK)
	leftIs(t, c, 214, 0)
	nextIsNone(t, c)
	leftIs(t, c, 1, 0)
	feedIs(t, c, "\n\n", api.OK)
	leftIs(t, c, 3, 0)
	nextIs(t, c, set(""))
	leftIs(t, c, 1, 0)
	nextIs(t, c, no(line.BadCommand))
	leftIs(t, c, 0, 0)
	feedIs(t, c, "set k 0 0 1\nabcd\nget k\n", api.OK) // the rest of a line is swallowed by the next Next alone
	nextIs(t, c, no(line.BadChunk))
	leftIs(t, c, 8, 0)
	nextIs(t, c, get("k"))
	leftIs(t, c, 0, 0)
}

// Promise 19.2: two things that are wrong at once, or that apply at once: the one that is named first.
func TestTwoAtOnce(t *testing.T) {
	chunk, bad, tooLong := no(line.BadChunk), no(line.BadCommand), no(line.TooLong)
	for _, x := range []struct {
		s    string
		list []Ask
	}{
		// What is to be swallowed goes ahead of a line that is too long, of one that is none, and of a value.
		{"set k x 0 300\n" + long(300), []Ask{no(line.BadLine)}},
		{"set k x 0 300\n" + long(302) + long(162), []Ask{no(line.BadLine), tooLong}},
		{"set k x 0 7\nnothing\n\n\nget", []Ask{no(line.BadLine), bad}},
		{"set k x 0 20\nset k 0 0 3\nabcdefgh\n\n\nget k\n", []Ask{no(line.BadLine), bad, get("k")}},
		// The rest of a line is swallowed whole, however long it is, and whatever it says.
		{long(162) + long(162) + long(162), []Ask{tooLong}},
		{long(162) + wide(162) + "\nget k\n", []Ask{tooLong, get("k")}},
		{"set k 0 0 1\nabcd" + long(500), []Ask{chunk}},
		{"set k 0 0 1\nabcdset k 0 0 3\nabc\r\n", []Ask{chunk, bad}},
		// A command that waits goes ahead of a line that is too long, or none.
		{"set k 0 0 300\n" + long(299), nil},
		{"set k 0 0 300\n" + long(300) + "\r\n", []Ask{set(long(300))}},
		{"set k 0 0 300\n" + long(600), []Ask{chunk}},
		{"set k 0 0 300\n" + long(298) + "\n\n" + long(600), []Ask{chunk}},
		{"set k 0 0 3\nget\n\nget k\n", []Ask{chunk, get("k")}},
		{"set k 0 0 3\n\n\n\n\n\nget k\n", []Ask{chunk, get("k")}},
		// A line that is too long, and asks for something, or for nothing, or for too much.
		{wide(161) + "\n", []Ask{tooLong}},
		{"set k 0 0 3" + strings.Repeat(" ", 150) + "\nget k\n", []Ask{tooLong, get("k")}},
		{"set k 0 0 9999" + strings.Repeat(" ", 150) + "\nget k\n", []Ask{tooLong, get("k")}},
		{"set k x 0 3" + strings.Repeat(" ", 150) + "\nget k\n", []Ask{tooLong, get("k")}},
		{"get " + strings.Repeat("a ", 9) + long(150) + "\n", []Ask{tooLong}},
		// Lines of which two things are wrong: as line names them.
		{"set k x x -1\nabc\n", []Ask{chunk, bad}},
		{"set k x 0 9999\n" + long(10001) + "get k\n", []Ask{no(line.BadLine), get("k")}},
		{"set k 0 x 9999\n" + long(10001) + "get k\n", []Ask{no(line.BadExp), get("k")}},
		{"set k x 0 3 noreply\nabcdeget k\n", []Ask{no(line.BadLine), get("k")}},
		// Of a length that is too big the end of the value is not asked for.
		{"set k 0 0 2001\n" + long(2003) + "get k\n", []Ask{tooBig(), get("k")}},
	} {
		inAllWays(t, x.s, x.list...)
	}
	// Too many bytes are too many whatever they ask for, also of what is to be swallowed.
	for _, head := range []string{"", "set k 0 0 99999\n", long(162), "set k 0 0 2000\n"} {
		c := New()
		feedIs(t, c, head, api.OK)
		c.Next()
		there, swallow := c.Left()
		feedIs(t, c, strings.Repeat("\n", 65537-there), api.ErrFull)
		leftIs(t, c, there, swallow)
	}
}

// Promise 19.3: texts that ask for several things, in all pieces of up to three, with Next behind each piece, or behind the last one alone.
func TestAllPieces(t *testing.T) {
	for _, s := range []string{
		"set k 0 0 3\r\nabc\r\nget k\r\n",
		"set k 0 0 3\r\nabcd\r\nget k\r\n",
		"set k 0 0 2\nabcdef\nset k 0 0 0\n\r\nget k\n",
		"set k x 0 3\r\nab\r\n\nget k\r\n\r\n\n\r",
		"set k 0 0 1\n\n\r\nset k 0 0 1\n\n\n\nget\n",
		"set k 0 0 0\r\nx\nset k 0 0 0\r\nxyz\r\nget k\n",
		"set k 0 0 -1\r\nabc\r\nset k 0 0 2001\nget k\n",
		"get a b\r\rget c\n\r\nincr k 5\r\nflush_all noreply\n",
		"set k 0 0 4\r\nab\r\n\r\ncas k 0 0 1 9\r\nv\r\nx",
	} {
		for at := range len(s) + 1 {
			for to := at; to <= len(s); to++ {
				first, second := cut(t, s, true, at, to), cut(t, s, false, at, to)
				if !slices.EqualFunc(first.list, second.list, same) {
					first.fail("of the same bytes something else was told: " + short(second.list))
				}
			}
		}
	}
}

// Promise 19.3: pieces near the ends of lines that are too long, or nearly so.
func TestPiecesOfLongLines(t *testing.T) {
	for _, s := range []string{
		wide(160) + "\r\n" + wide(161) + "\r\nget k\r\n",
		wide(161) + "\n" + wide(160) + "\nget k\n",
		long(162) + "\nget k\n" + long(162),
		long(200) + "\r\n\n" + long(161) + "\r",
		"set k 0 0 1\nab" + long(170) + "\nget k\n" + long(163) + "\n",
		"set k 0 0 162\n" + long(162) + "\r\n" + long(162) + "\r\n\r\n",
		"set k x 0 162\n" + long(162) + "\r\n" + long(162) + "\r\n\r\n",
	} {
		for at := 0; at <= len(s); at += 3 {
			for to := at; to <= len(s); to += 1 + (to-at)/7 {
				cut(t, s, true, at, to)
				cut(t, s, false, at, to)
			}
		}
	}
}

// Promise 19.3: from there on bytes are read as if they came first: what is asked for by two texts is what each one asks for, if the first one leaves nothing.
func TestAsIfTheyCameFirst(t *testing.T) {
	list := []string{"get k\r\n", "set k 0 0 3\r\nabc\r\n", "set k 0 0 3\nabcd\r\n", "set k 0 0 3\nabcdefg\n", "\n", wide(161) + "\n", long(300) + "\n", "set k x 0 1\n\n\n\n", "set k 0 0 2001\n" + long(2003), "incr k\n", "set k 0 0 x\n", "set k 0 0 0\n\r\n"}
	for _, a := range list {
		first := atOnce(t, a)
		leftIs(t, first.c, 0, 0)
		if len(first.list) != 1 {
			t.Errorf("the test is wrong: %q asks for %s", a, short(first.list))
		}
		for _, b := range list {
			second := atOnce(t, b)
			both := atOnce(t, a+b)
			if !slices.EqualFunc(both.list, slices.Concat(first.list, second.list), same) {
				both.fail("it was to be told: " + short(first.list) + " and " + short(second.list))
			}
		}
	}
}

// noise tells numbers without order below a bound, the same ones each time.
func noise(seed uint64) func(int) int {
	return func(n int) int {
		seed ^= seed << 13
		seed ^= seed >> 7
		seed ^= seed << 17
		return int(seed >> 1 % uint64(n))
	}
}

// anyText is a text of lines and values, many of them nearly right.
func anyText(next func(int) int) string {
	parts := []string{"get k\r\n", "get a b\n", "gets k\r\n", "\n", "\r\n", "\r", "\n\r", "x", "abc", " ", "\x00", "delete k\r\n", "incr k 5\n", "incr k x\n", "touch k 5\r\n", "flush_all\r\n",
		"set k 0 0 -1\r\n", "set k x 0 3\r\n", "set k 0 0 2001\n", "set k 0 0 2147483648\n", "set k 0 0\n", "append k 1 2 3\r\n", "cas k 1 2 3 4\n", "set k 0 x 2\n"}
	var b strings.Builder
	for range 1 + next(12) {
		switch next(6) {
		case 0:
			n := next(12)
			if next(8) == 0 {
				n = next(2003)
			}
			v := anyValue(next, n)
			end := []string{"\r\n", "\r\n", "\r\n", "\n", "\r", "x\n", "xy", "xyz\r\n", ""}[next(9)]
			b.WriteString(fmt.Sprintf("set k 0 %d %d", next(3), n) + []string{"\r\n", "\n"}[next(2)] + v + end)
		case 1:
			b.WriteString(long(next(8)) + []string{wide(155 + next(12)), long(155 + next(12))}[next(2)])
		case 2:
			b.WriteString(anyValue(next, next(20)))
		default:
			b.WriteString(parts[next(len(parts))])
		}
	}
	return b.String()
}

// anyValue is so many bytes, some of them ends of lines.
func anyValue(next func(int) int, n int) string {
	b := make([]byte, n)
	for i := range b {
		b[i] = "\r\n\nxk 0\x00"[next(8)]
	}
	return string(b)
}

// Promises 19.2 and 19.3: texts without order, in pieces without order, with Next called at any time.
func TestManyTexts(t *testing.T) {
	next := noise(88172645463325252)
	found := map[int]int{}
	for range 12000 {
		s := anyText(next)
		whole := atOnce(t, s)
		p := newPair(t, s)
		least := 1 + next(1+len(s))
		for p.w.come < len(s) {
			p.feed(min(next(1+least), len(s)-p.w.come))
			for range next(4) {
				p.next()
			}
		}
		p.told()
		if !slices.EqualFunc(p.list, whole.list, same) {
			p.fail("of the same bytes something else was told at once: " + short(whole.list))
		}
		for _, x := range p.list {
			found[x.Verdict]++
		}
	}
	for _, verdict := range []int{1, 3, 4, 5, 6, 7, 8, 9} {
		if found[verdict] < 300 {
			t.Errorf("verdict %d: %d times among %v", verdict, found[verdict], found)
		}
	}
	if found[line.Wants] != 0 {
		t.Errorf("a command that waits was told: %v", found)
	}
}

// Promises 19.1 to 19.3: far more bytes than a connection holds at once, in pieces without order; what Feed refuses comes later.
func TestManyBytes(t *testing.T) {
	next := noise(1181783497276652981)
	var b strings.Builder
	for b.Len() < 3<<20 {
		b.WriteString(anyText(next))
		if next(50) == 0 {
			b.WriteString("\nset k 0 0 " + fmt.Sprint(next(200000)) + "\n")
		}
	}
	p := newPair(t, b.String())
	for p.w.come < len(p.s) {
		p.feed(min(next(30000), len(p.s)-p.w.come))
		for range next(20) {
			p.next()
		}
		if p.w.come-p.w.at > 30000 {
			p.all()
		}
	}
	p.told()
	refused := 0
	p = newPair(t, p.s)
	for p.w.come < len(p.s) {
		come := p.w.come
		p.feed(min(next(30000), len(p.s)-come))
		if p.w.come == come {
			refused++
			p.all()
		}
	}
	p.told()
	if refused < 10 {
		t.Errorf("the test is wrong: Feed refused %d times", refused)
	}
}

// Promises 19.1 and 19.2 (R4): what is handed in is not changed, and not kept; what is handed out is shared with nothing.
func TestNothingIsShared(t *testing.T) {
	c := New()
	room := []byte("get a b\nset k 0 0 3\nabc\r\nget c\n and more")
	was := slices.Clone(room)
	for _, piece := range [][]byte{room[:4], room[4:18], room[18:28], room[28:30]} {
		if e := c.Feed(piece); e != api.OK {
			t.Errorf("Feed: error %d", e)
		}
		if !slices.Equal(room, was) {
			t.Errorf("Feed changed what it was handed, or what lies behind it: %q", room)
		}
		for i := range piece {
			piece[i] = 'z'
		}
		was = slices.Clone(room)
	}
	first, ok := c.Next()
	if !ok || !same(first, get("a", "b")) {
		t.Errorf("Next: %+v, %v", first, ok)
	}
	keys := first.C.Keys[:cap(first.C.Keys)]
	for i := range keys {
		keys[i] = "z"
	}
	if e := c.Feed([]byte("\n")); e != api.OK {
		t.Errorf("Feed: error %d", e)
	}
	second, ok := c.Next()
	if !ok || !same(second, set("abc")) {
		t.Errorf("Next: %+v, %v", second, ok)
	}
	second.C.Keys[0] = "z"
	feedIs(t, c, "set k 0 0 3\nxyz\r\n", api.OK)
	nextIs(t, c, get("c"))
	nextIs(t, c, set("xyz"))
	if second.C.Value != "abc" || !slices.Equal(keys[:2], []string{"z", "z"}) {
		t.Errorf("what was told was changed: %+v, %v", second, keys)
	}
}

// Promise 19.1: connections beside one another have nothing in common.
func TestSeveral(t *testing.T) {
	texts := []string{"set k 0 0 3\r\nabc\r\nget k\r\n", "set k 0 0 1\r\nabcdef\r\nget a\r\n", "set k x 0 30\r\n" + long(32) + "get b\r\n", long(200) + "\nget c\r\n", "get d\r\n"}
	var pairs []*pair
	for _, s := range texts {
		pairs = append(pairs, newPair(t, s))
	}
	for range 250 {
		for _, p := range pairs {
			if p.w.come < len(p.s) {
				p.feed(1)
			}
			p.next()
		}
	}
	for _, p := range pairs {
		p.told()
	}
}

// FuzzAsks holds what a text asks for, in pieces, against the document's words.
func FuzzAsks(f *testing.F) {
	f.Add("set k 0 0 3\r\nabc\r\nget k\r\n", 3, 5, true)
	f.Add("set k 0 0 3\r\nabcd\r\nget k\r\n", 14, 18, false)
	f.Add("set k x 0 3\r\nabc\r\nset k 0 0 2001\r\n", 1, 30, true)
	f.Add(long(162)+"\n"+wide(160)+"\r\n", 161, 162, true)
	f.Fuzz(func(t *testing.T, s string, at, to int, each bool) {
		if len(s) > 65536 {
			s = s[:65536]
		}
		at = min(max(at, 0), len(s))
		to = min(max(to, at), len(s))
		whole, pieces := atOnce(t, s), cut(t, s, each, at, to)
		if !slices.EqualFunc(whole.list, pieces.list, same) {
			pieces.fail("of the same bytes something else was told at once: " + short(whole.list))
		}
		if len(s) <= 3000 {
			byBytes(t, s, 1)
		}
	})
}
