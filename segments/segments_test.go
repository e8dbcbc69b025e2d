package segments

import (
	"bytes"
	"math"
	"math/big"
	"slices"
	"strings"
	"testing"

	"tallboy/api"
	"tallboy/arena"
	"tallboy/item"
)

// size is how many bytes a page has, header how many an item's header.
const (
	size   = 1024
	header = 40
)

// Where a header has what this layer changes, and how often it is held.
const (
	prevAt  = 4
	afterAt = 8
	segAt   = 35
	bitsAt  = 36
	refsAt  = 37
)

// far is a whole number beyond all that an arena has, whose lowest 32 bits are 0.
const far = 1 << 32

// farAways are addresses in no arena; some have a right one as their lowest bits.
var farAways = []int{-1, -2, -35, -36, -37, -39, -40, -41, -64, -1023, -1024, -1025, -2048, math.MinInt32, -far, -far + 64, math.MinInt, math.MinInt + 1, math.MinInt + 64,
	32 * size, 32*size + 64, 1 << 16, math.MaxInt32, 1 << 31, far - 1, far, far + 64, far + 1024, 1 << 62, math.MaxInt, math.MaxInt - 3, math.MaxInt - 35, math.MaxInt - 36,
	math.MaxInt - 37, math.MaxInt - 39, math.MaxInt - 40, math.MaxInt - 1023, math.MaxInt - 1024}

// noSegments are numbers of none of the three; some have one of these as their lowest bits.
var noSegments = []int{-1, -2, -3, -4, -253, -254, -256, 3, 4, 5, 7, 8, 255, 256, 257, 258, 65536, 65537, 1 << 31, math.MaxInt32, math.MinInt32, -far, -far + 1, far, far + 1, far + 2,
	1 << 62, 1<<62 + 1, math.MaxInt, math.MaxInt - 1, math.MinInt, math.MinInt + 1, math.MinInt + 2}

// noBits are numbers that no item's bits may be; some have right ones as their lowest bits.
var noBits = []int{0, 2, 4, 6, -1, -2, -3, -5, -7, -8, -255, -256, 8, 9, 10, 11, 13, 15, 16, 17, 128, 129, 255, 256, 257, 263, 65537, 1<<31 + 1, math.MaxInt32, math.MinInt32, math.MinInt32 + 1,
	-far + 1, -far + 7, far, far + 1, far + 3, far + 7, 1<<62 + 1, math.MaxInt, math.MaxInt - 6, math.MinInt, math.MinInt + 1, math.MinInt + 7}

// rightBits are all that an item's bits may be.
var rightBits = []int{1, 3, 5, 7}

// places are those of each segment's items, the youngest first.
type places [3][]int

// world is several Lrus over one arena, and what they must be: each one's items, and all bytes.
type world struct {
	t       *testing.T
	a       *arena.Arena
	granted []bool
	bytes   []byte
	lrus    []*Lru
	lists   []places
}

// made is n Lrus without items over an arena with a page for each sign, g: granted, with bytes without order, f: free.
// No header there is held.
func made(t *testing.T, n int, pages string) *world {
	t.Helper()
	a, e := arena.New(len(pages))
	if e != api.OK {
		t.Fatalf("an arena of %d pages: error %d", len(pages), e)
	}
	w := &world{t: t, a: a, granted: make([]bool, len(pages)), bytes: noise(uint64(len(pages)), len(pages)*size), lists: make([]places, n)}
	for page := range pages {
		a.Grant(page % 8)
		for i := range size / header {
			w.bytes[page*size+i*header+refsAt] = 0
		}
		a.Write(page*size, w.bytes[page*size:(page+1)*size])
	}
	for page, sign := range pages {
		w.granted[page] = sign == 'g'
		if sign == 'f' {
			a.Return(page)
		}
	}
	for range n {
		w.lrus = append(w.lrus, New(a))
	}
	w.same("New")
	return w
}

// noise is n bytes without order, others for each seed.
func noise(seed uint64, n int) []byte {
	v := 88172645463325252 + seed*0x9E3779B97F4A7C15
	b := make([]byte, n)
	for i := range b {
		v ^= v << 13
		v ^= v >> 7
		v ^= v << 17
		b[i] = byte(v >> 24)
	}
	return b
}

// spot is where the header with a number lies, of as many in a page as go into it.
func spot(i int) int { return i/25*size + i%25*header }

// nameOf is the letter of the header that lies at a place.
func nameOf(at int) byte { return byte('a' + at/size*25 + at%size/header) }

// drawn is a world with one Lru of the items that a drawing has: hot|warm|cold, the youngest first, a letter for each;
// a great letter is an item that was used twice, a small one an item that was not used. A letter's item is always at the same place.
func drawn(t *testing.T, drawing string) *world {
	t.Helper()
	w := made(t, 1, "gg")
	for seg, letters := range strings.Split(drawing, "|") {
		for _, c := range slices.Backward([]byte(letters)) {
			at, bits := spotOf(c), 1
			if c < 'a' {
				bits = 7
			}
			w.put(0, at, seg, bits, api.OK)
		}
	}
	w.looks(drawing)
	return w
}

// spotOf is the place of a letter's item.
func spotOf(c byte) int { return spot(int(c|32) - 'a') }

// looks holds the first Lru, as it is asked and as its items' headers say, against a drawing.
func (w *world) looks(drawing string) {
	w.t.Helper()
	var text strings.Builder
	for seg := range 3 {
		if seg > 0 {
			text.WriteByte('|')
		}
		for _, at := range w.lrus[0].List(seg) {
			bits, e := item.Get(w.a, at, item.FBits)
			if e != api.OK {
				w.t.Fatalf("bits of the item at %d: error %d", at, e)
			}
			c := nameOf(at)
			if bits&4 != 0 {
				c -= 32
			}
			text.WriteByte(c)
		}
	}
	if got := text.String(); got != drawing {
		w.t.Fatalf("it is %s, not %s", got, drawing)
	}
}

// mayBeQueued tells whether each byte of a header lies within a granted page, and all in one.
func (w *world) mayBeQueued(at int) bool {
	if at < 0 || at >= len(w.bytes) {
		return false
	}
	for i := range header {
		if at+i >= len(w.bytes) || !w.granted[at/size] || (at+i)/size != at/size {
			return false
		}
	}
	return true
}

// segmentOf is the segment that an item must be in.
func (w *world) segmentOf(n, at int) (int, bool) {
	for seg, list := range w.lists[n] {
		if slices.Contains(list, at) {
			return seg, true
		}
	}
	return 0, false
}

// addError is what Add must answer.
func (w *world) addError(n, at int) api.Errno {
	if !w.mayBeQueued(at) {
		return api.ErrRange
	}
	if _, there := w.segmentOf(n, at); there {
		return api.ErrTwice
	}
	return api.OK
}

// putError is what Put must answer.
func (w *world) putError(n, at, seg, bits int) api.Errno {
	if seg != 0 && seg != 1 && seg != 2 || !slices.Contains(rightBits, bits) {
		return api.ErrField
	}
	return w.addError(n, at)
}

// thereError is what Drop and Bump must answer.
func (w *world) thereError(n, at int) api.Errno {
	if _, there := w.segmentOf(n, at); !there {
		return api.ErrNone
	}
	return api.OK
}

// add does an Add, whose error the test names, and holds all against what it must be.
func (w *world) add(n, at int, e api.Errno) {
	w.t.Helper()
	if want := w.addError(n, at); want != e {
		w.t.Fatalf("the test says error %d of Add(%d), the document %d", e, at, want)
	}
	if got := w.lrus[n].Add(at); got != e {
		w.t.Fatalf("Add(%d) to %v: error %d, not %d", at, w.lists[n], got, e)
	}
	if e == api.OK {
		w.lay(n, at, 0, 1)
	}
	w.same("Add")
}

// put does a Put, whose error the test names, and holds all against what it must be.
func (w *world) put(n, at, seg, bits int, e api.Errno) {
	w.t.Helper()
	if want := w.putError(n, at, seg, bits); want != e {
		w.t.Fatalf("the test says error %d of Put(%d, %d, %d), the document %d", e, at, seg, bits, want)
	}
	if got := w.lrus[n].Put(at, seg, bits); got != e {
		w.t.Fatalf("Put(%d, %d, %d) to %v: error %d, not %d", at, seg, bits, w.lists[n], got, e)
	}
	if e == api.OK {
		w.lay(n, at, seg, bits)
	}
	w.same("Put")
}

// drop does a Drop, whose error the test names, and holds all against what it must be.
func (w *world) drop(n, at int, e api.Errno) {
	w.t.Helper()
	if want := w.thereError(n, at); want != e {
		w.t.Fatalf("the test says error %d of Drop(%d), the document %d", e, at, want)
	}
	if got := w.lrus[n].Drop(at); got != e {
		w.t.Fatalf("Drop(%d) of %v: error %d, not %d", at, w.lists[n], got, e)
	}
	if e == api.OK {
		w.takeOut(n, at)
		w.bytes[at+bitsAt] = 0
	}
	w.same("Drop")
}

// bump does a Bump, whose error the test names, and holds all against what it must be.
func (w *world) bump(n, at int, e api.Errno) {
	w.t.Helper()
	if want := w.thereError(n, at); want != e {
		w.t.Fatalf("the test says error %d of Bump(%d), the document %d", e, at, want)
	}
	if got := w.lrus[n].Bump(at); got != e {
		w.t.Fatalf("Bump(%d) of %v: error %d, not %d", at, w.lists[n], got, e)
	}
	if e == api.OK {
		// The bits by what they are worth: 2 once it was used, 4 if it was used again.
		switch b := &w.bytes[at+bitsAt]; {
		case *b/2%2 == 0:
			*b += 2
		case *b/4%2 == 0:
			*b += 4
		}
	}
	w.same("Bump")
}

// juggle does a Juggle, holds all against what it must be, and answers whether something went.
func (w *world) juggle(n int) bool {
	w.t.Helper()
	at, to, goes := w.nextToGo(n)
	before := w.lists[n]
	if got := w.lrus[n].Juggle(); got != goes {
		w.t.Fatalf("Juggle of %v: %t", before, got)
	}
	if goes {
		w.takeOut(n, at)
		bits := int(w.bytes[at+bitsAt])
		w.lay(n, at, to, bits-bits/4%2*4)
	}
	w.same("Juggle")
	return goes
}

// nextToGo is the item that must go, and where it goes to, by the document's words, with fifths that are not rounded.
func (w *world) nextToGo(n int) (int, int, bool) {
	lists := w.lists[n]
	all := int64(len(lists[0]) + len(lists[1]) + len(lists[2]))
	isMore := func(seg int, fifths int64) bool {
		return big.NewRat(int64(len(lists[seg])), 1).Cmp(big.NewRat(fifths*all, 5)) > 0
	}
	isActive := func(at int) bool { return w.bytes[at+bitsAt]/4%2 == 1 }
	for seg := range 2 {
		if !isMore(seg, int64(seg)+1) {
			continue
		}
		last := lists[seg][len(lists[seg])-1]
		if isActive(last) {
			return last, 1, true
		}
		return last, 2, true
	}
	if cold := lists[2]; len(cold) > 0 && isActive(cold[len(cold)-1]) {
		return cold[len(cold)-1], 1, true
	}
	return 0, 0, false
}

// victim is what Victim must answer.
func (w *world) victim(n int) (int, api.Errno) {
	var order []int
	for _, list := range []int{2, 1, 0} {
		for _, at := range slices.Backward(w.lists[n][list]) {
			order = append(order, at)
		}
	}
	if len(order) == 0 {
		return 0, api.ErrNone
	}
	for i, at := range order {
		if i < 5 && w.bytes[at+refsAt] == 0 {
			return at, api.OK
		}
	}
	return 0, api.ErrBusy
}

// hold makes an item one that is held so often.
func (w *world) hold(at, refs int) {
	w.t.Helper()
	if e := item.Set(w.a, at, item.FRefs, refs); e != api.OK {
		w.t.Fatalf("%d as FRefs of the item at %d: error %d", refs, at, e)
	}
	w.bytes[at+refsAt] = byte(refs)
}

// lay makes an item the youngest of a segment in what must be there, with its bits.
func (w *world) lay(n, at, seg, bits int) {
	w.lists[n][seg] = slices.Insert(slices.Clone(w.lists[n][seg]), 0, at)
	w.bytes[at+segAt], w.bytes[at+bitsAt] = byte(seg), byte(bits)
	w.link(w.lists[n][seg])
}

// takeOut makes an item one of no segment in what must be there.
func (w *world) takeOut(n, at int) {
	seg, _ := w.segmentOf(n, at)
	w.lists[n][seg] = slices.DeleteFunc(slices.Clone(w.lists[n][seg]), func(other int) bool { return other == at })
	w.link([]int{at})
	w.link(w.lists[n][seg])
}

// link lays into the bytes that must be there what the items of a queue say of their neighbours, the lowest byte first.
func (w *world) link(list []int) {
	for i, at := range list {
		ahead, behind := -1, -1
		if i > 0 {
			ahead = list[i-1]
		}
		if i+1 < len(list) {
			behind = list[i+1]
		}
		for i := range 4 {
			w.bytes[at+prevAt+i] = byte(ahead >> (8 * i))
			w.bytes[at+afterAt+i] = byte(behind >> (8 * i))
		}
	}
}

// same holds the arena's bytes, and all that the Lrus tell, against what they must be.
func (w *world) same(after string) {
	w.t.Helper()
	for page, granted := range w.granted {
		got, e := w.a.Read(page*size, size)
		if (e == api.OK) != granted || granted && !bytes.Equal(got, w.bytes[page*size:(page+1)*size]) {
			w.t.Fatalf("page %d behind %s: error %d, or other bytes", page, after, e)
		}
	}
	for n := range w.lists {
		w.told(n, after)
	}
}

// told holds what an Lru tells of itself against what it must be.
func (w *world) told(n int, after string) {
	w.t.Helper()
	l, lists := w.lrus[n], w.lists[n]
	for seg, list := range lists {
		if got := l.List(seg); !slices.Equal(got, list) {
			w.t.Fatalf("List(%d) behind %s: %v, not %v", seg, after, got, list)
		}
	}
	if hot, warm, cold := l.Counts(); hot != len(lists[0]) || warm != len(lists[1]) || cold != len(lists[2]) {
		w.t.Fatalf("Counts behind %s, of %v: %d, %d, %d", after, lists, hot, warm, cold)
	}
	at, e := w.victim(n)
	if got, gotE := l.Victim(); got != at || gotE != e {
		w.t.Fatalf("Victim behind %s, of %v: %d, error %d, not %d, error %d", after, lists, got, gotE, at, e)
	}
}

// Promises 13.1 and 13.2: the chapter's example.
func TestExample(t *testing.T) {
	a, _ := arena.New(1)
	a.Grant(0)
	l := New(a)
	for i := range 5 {
		if e := l.Add(i * 64); e != api.OK {
			t.Fatalf("Add(%d): error %d", i*64, e)
		}
	}
	for i := range 4 {
		if !l.Juggle() {
			t.Fatalf("Juggle %d of 4: nothing", i+1)
		}
		if cold := l.List(Cold); len(cold) != i+1 || cold[0] != i*64 {
			t.Errorf("Cold behind Juggle %d: %v", i+1, cold)
		}
	}
	if hot, warm, cold := l.Counts(); hot != 1 || warm != 0 || cold != 4 {
		t.Errorf("Counts: %d, %d, %d", hot, warm, cold)
	}
	if hot := l.List(Hot); !slices.Equal(hot, []int{256}) {
		t.Errorf("Hot: %v", hot)
	}
	if l.Juggle() {
		t.Errorf("a fifth Juggle moved something")
	}
}

// The names that other layers call: the document's numbers.
func TestNames(t *testing.T) {
	if Hot != 0 || Warm != 1 || Cold != 2 {
		t.Errorf("the segments: %d, %d, %d", Hot, Warm, Cold)
	}
	if Linked != 1 || Fetched != 2 || Active != 4 {
		t.Errorf("the bits: %d, %d, %d", Linked, Fetched, Active)
	}
}

// Promises 13.1 and 13.2: what is new has nothing, wherever it is asked, also where a header looks as if it were linked.
func TestNoItems(t *testing.T) {
	for _, pages := range []string{"g", "f", "gf", "fg", "ggg", "fff"} {
		w := made(t, 1, pages)
		if pages[0] == 'g' {
			w.link([]int{40, 80, 120})
			for at := 40; at <= 120; at += 40 {
				w.bytes[at+segAt], w.bytes[at+bitsAt] = byte(at/40-1), 7
			}
			w.a.Write(0, w.bytes[:size])
		}
		for _, at := range append([]int{0, 1, 40, 80, 120, 984, 985, 1023, 1024, 2048}, farAways...) {
			w.drop(0, at, api.ErrNone)
			w.bump(0, at, api.ErrNone)
		}
		if w.juggle(0) {
			t.Errorf("Juggle of nothing: something")
		}
		if at, e := w.lrus[0].Victim(); at != 0 || e != api.ErrNone {
			t.Errorf("Victim of nothing: %d, error %d", at, e)
		}
	}
	// And where there was something.
	w := drawn(t, "ab|c|d")
	for _, c := range []byte("abcd") {
		w.drop(0, spotOf(c), api.OK)
	}
	w.looks("||")
	if at, e := w.lrus[0].Victim(); at != 0 || e != api.ErrNone || w.juggle(0) {
		t.Errorf("where nothing is left: %d, error %d", at, e)
	}
}

// Promise 13.1: what is added is the youngest of Hot, Linked alone, whatever its header was, and however the others are.
func TestAdd(t *testing.T) {
	for _, drawing := range []string{"||", "a||", "|a|", "||a", "abC||", "|aBc|", "||Abc", "aB|Cd|eF"} {
		w := drawn(t, drawing)
		for i, bits := range []int{0, 1, 3, 7, 6, 248, 255} {
			at := spot(20 + i)
			w.a.Write(at+segAt, []byte{byte(i), byte(bits)})
			w.bytes[at+segAt], w.bytes[at+bitsAt] = byte(i), byte(bits)
			w.add(0, at, api.OK)
			if first := w.lrus[0].List(0)[0]; first != at {
				t.Errorf("the youngest of Hot behind Add(%d): %d", at, first)
			}
			seg, _ := item.Get(w.a, at, item.FSeg)
			if got, e := item.Get(w.a, at, item.FBits); seg != 0 || got != 1 || e != api.OK {
				t.Errorf("what was added: segment %d, bits %d, error %d", seg, got, e)
			}
		}
	}
}

// Promise 13.1: what is put is the youngest of that segment, with those bits, whatever its header was.
func TestPut(t *testing.T) {
	for _, drawing := range []string{"||", "a||", "|a|", "||a", "abC||", "|aBc|", "||Abc", "aB|Cd|eF"} {
		for seg := range 3 {
			w := drawn(t, drawing)
			for i, bits := range rightBits {
				at := spot(20 + i)
				w.put(0, at, seg, bits, api.OK)
				if first := w.lrus[0].List(seg)[0]; first != at {
					t.Errorf("the youngest of segment %d behind Put(%d): %d", seg, at, first)
				}
				gotSeg, _ := item.Get(w.a, at, item.FSeg)
				if got, e := item.Get(w.a, at, item.FBits); gotSeg != seg || got != bits || e != api.OK {
					t.Errorf("what was put into %d with %d: segment %d, bits %d, error %d", seg, bits, gotSeg, got, e)
				}
			}
		}
	}
}

// Promise 13.1: each number near 0 as a segment and as bits, and those far away: three segments, and four numbers of bits, are taken.
func TestPutTakesNoOthers(t *testing.T) {
	w := drawn(t, "a|b|c")
	at := spot(9)
	taken := 0
	for seg := -20; seg <= 20; seg++ {
		for bits := -20; bits <= 20; bits++ {
			e := w.putError(0, at, seg, bits)
			w.put(0, at, seg, bits, e)
			if e == api.OK {
				taken++
				w.drop(0, at, api.OK)
			}
		}
	}
	if taken != 12 {
		t.Errorf("%d of all were taken", taken)
	}
	for _, seg := range noSegments {
		for _, bits := range append(rightBits[:4:4], noBits...) {
			w.put(0, at, seg, bits, api.ErrField)
		}
	}
	for _, bits := range noBits {
		for seg := range 3 {
			w.put(0, at, seg, bits, api.ErrField)
		}
	}
	for bits := range 300 {
		e := w.putError(0, at, 1, bits)
		w.put(0, at, 1, bits, e)
		if e == api.OK {
			w.drop(0, at, api.OK)
		}
	}
	w.looks("a|b|c")
}

// Promise 13.1: an item that is in any of the queues is in there once: neither Add nor Put takes it, of whichever segment it is, and wherever it stands there.
func TestTwice(t *testing.T) {
	for _, drawing := range []string{"a||", "|a|", "||a", "a|b|c", "A|B|C", "abc|def|ghi", "||abcde", "|abcde|", "abcde||"} {
		w := drawn(t, drawing)
		for _, list := range w.lists[0] {
			for _, at := range list {
				w.add(0, at, api.ErrTwice)
				for seg := range 3 {
					for _, bits := range rightBits {
						w.put(0, at, seg, bits, api.ErrTwice)
					}
				}
			}
		}
		w.looks(drawing)
	}
}

// Promise 13.1: what went from one queue to another one by Juggle is in that one alone: it is not added to the one that it came from.
func TestTwiceBehindJuggle(t *testing.T) {
	w := drawn(t, "ABcd||")
	for w.juggle(0) {
		for _, c := range []byte("abcd") {
			w.add(0, spotOf(c), api.ErrTwice)
			for seg := range 3 {
				w.put(0, spotOf(c), seg, 1, api.ErrTwice)
			}
		}
	}
	w.drop(0, spotOf('d'), api.OK)
	w.drop(0, spotOf('d'), api.ErrNone)
	w.add(0, spotOf('d'), api.OK)
}

// Promise 13.1: each address of an arena, of those near its ends and far away: Add and Put take it if its header lies within a granted page, and no other one.
func TestWhereItemsMayBe(t *testing.T) {
	for _, pages := range []string{"g", "f", "gf", "fg", "gg", "gfg", "fgf"} {
		w := made(t, 1, pages)
		addresses := slices.Clone(farAways)
		for at := -size - 50; at <= len(w.bytes)+size+50; at++ {
			if at < 0 || (at+60)%size <= 120 || at%53 == 0 {
				addresses = append(addresses, at)
			}
		}
		for _, at := range addresses {
			e := w.addError(0, at)
			w.add(0, at, e)
			if e == api.OK {
				w.drop(0, at, api.OK)
			}
			seg := (at%3 + 3) % 3
			w.put(0, at, seg, 3, e)
			if e == api.OK {
				w.drop(0, at, api.OK)
			}
		}
	}
}

// Promise 13.1: a header that ends with its page is taken by all; one of which the last byte alone lies outside by none.
func TestHeadersAtPagesEnds(t *testing.T) {
	for _, c := range []struct {
		pages string
		at    int
		e     api.Errno
	}{
		{"g", 984, api.OK}, {"g", 985, api.ErrRange}, {"g", 987, api.ErrRange}, {"g", 988, api.ErrRange}, {"g", 1023, api.ErrRange}, {"g", 1024, api.ErrRange}, {"g", 0, api.OK},
		{"g", -1, api.ErrRange}, {"gg", 984, api.OK}, {"gg", 985, api.ErrRange}, {"gg", 1024, api.OK}, {"gg", 2008, api.OK}, {"gg", 2009, api.ErrRange}, {"fg", 0, api.ErrRange},
		{"fg", 1023, api.ErrRange}, {"fg", 1024, api.OK}, {"gf", 984, api.OK}, {"gf", 1024, api.ErrRange}, {"gfg", 2047, api.ErrRange}, {"gfg", 3032, api.OK}, {"gfg", 3033, api.ErrRange},
	} {
		w := made(t, 1, c.pages)
		w.add(0, c.at, c.e)
		for seg := range 3 {
			w := made(t, 1, c.pages)
			w.put(0, c.at, seg, 1, c.e)
			w.bump(0, c.at, w.thereError(0, c.at))
			w.drop(0, c.at, w.thereError(0, c.at))
		}
	}
}

// Promise 13.1: of two things that are wrong the one is told that the document names first.
func TestWrongTwice(t *testing.T) {
	w := drawn(t, "a|b|c")
	outside := append([]int{985, 2048, 2100}, farAways...)
	inside := []int{spotOf('a'), spotOf('b'), spotOf('c')}
	for _, at := range append(outside, inside...) {
		for _, seg := range []int{-1, 3, 256, far, math.MinInt} {
			w.put(0, at, seg, 1, api.ErrField)
			w.put(0, at, seg, 0, api.ErrField)
			w.put(0, at, seg, 8, api.ErrField)
		}
		for _, bits := range []int{-1, 0, 2, 8, 9, far + 1, math.MinInt + 1} {
			for seg := range 3 {
				w.put(0, at, seg, bits, api.ErrField)
			}
		}
	}
	for _, at := range outside {
		w.add(0, at, api.ErrRange)
		w.put(0, at, 2, 7, api.ErrRange)
	}
	for _, at := range inside {
		w.add(0, at, api.ErrTwice)
		w.put(0, at, 0, 1, api.ErrTwice)
	}
	w.looks("a|b|c")
}

// Promise 13.1: what is dropped is in none of the queues, without bits, of whichever segment it was, and wherever it stood there; it is added anew.
func TestDrop(t *testing.T) {
	for _, drawing := range []string{"a||", "|a|", "||a", "A|B|C", "abC|DeF|gHi", "||aBcde", "|aBcde|", "aBcde||"} {
		letters := strings.ReplaceAll(drawing, "|", "")
		for _, c := range []byte(letters) {
			w := drawn(t, drawing)
			at := spotOf(c)
			seg, _ := w.segmentOf(0, at)
			w.drop(0, at, api.OK)
			w.looks(strings.ReplaceAll(drawing, string(c), ""))
			if bits, e := item.Get(w.a, at, item.FBits); bits != 0 || e != api.OK {
				t.Errorf("bits of what was dropped: %d, error %d", bits, e)
			}
			if got, e := item.Get(w.a, at, item.FSeg); got != seg || e != api.OK {
				t.Errorf("segment of what was dropped from %d: %d, error %d", seg, got, e)
			}
			w.drop(0, at, api.ErrNone)
			w.bump(0, at, api.ErrNone)
			w.put(0, at, (seg+1)%3, 5, api.OK)
			w.drop(0, at, api.OK)
			w.add(0, at, api.OK)
			w.drop(0, at, api.OK)
			for len(letters) > 0 {
				if letters[0] != c {
					w.drop(0, spotOf(letters[0]), api.OK)
				}
				letters = letters[1:]
			}
			w.looks("||")
			letters = strings.ReplaceAll(drawing, "|", "")
		}
	}
}

// Promise 13.1: what Drop and Bump refuse: what is in no queue, though it was, though its header looks as if it were, and though it is held.
func TestDropAndBumpOfNone(t *testing.T) {
	w := drawn(t, "ad|be|cf")
	for _, c := range []byte("def") {
		w.drop(0, spotOf(c), api.OK)
		w.bytes[spotOf(c)+bitsAt] = 3
		item.Set(w.a, spotOf(c), item.FBits, 3)
		w.hold(spotOf(c), 1)
	}
	for _, at := range append([]int{spotOf('d'), spotOf('e'), spotOf('f'), spotOf('g'), 1, 4, 41, 985, 1023, 1024, 2047, 2048}, farAways...) {
		w.drop(0, at, api.ErrNone)
		w.bump(0, at, api.ErrNone)
	}
	w.looks("a|b|c")
}

// Promise 13.1: an item that was used once is Fetched; used again it is Active, too; used once more it stays so. Nothing moves.
func TestBump(t *testing.T) {
	for seg := range 3 {
		for _, c := range []struct{ bits, once, twice int }{{1, 3, 7}, {3, 7, 7}, {5, 7, 7}, {7, 7, 7}} {
			for place := range 3 {
				w := drawn(t, "aB|cD|eF")
				at := spot(9)
				for i := range 3 {
					if i == place {
						w.put(0, at, seg, c.bits, api.OK)
					} else {
						w.put(0, spot(10+i), seg, 1, api.OK)
					}
				}
				for i, want := range []int{c.once, c.twice, 7, 7} {
					w.bump(0, at, api.OK)
					if bits, e := item.Get(w.a, at, item.FBits); bits != want || e != api.OK {
						t.Errorf("bits, at first %d, of segment %d, used %d times: %d, error %d, not %d", c.bits, seg, i+1, bits, e, want)
					}
				}
			}
		}
	}
}

// Promise 13.1: what is added by Add is used once, and again, and dropped, and added: it was not used then.
func TestBumpBeginsAnew(t *testing.T) {
	w := made(t, 1, "g")
	at := spot(3)
	for range 3 {
		w.add(0, at, api.OK)
		w.looks("d||")
		w.bump(0, at, api.OK)
		w.looks("d||")
		w.bump(0, at, api.OK)
		w.looks("D||")
		w.drop(0, at, api.OK)
	}
}

// Promise 13.2: drawings, juggled till nothing applies: each step's drawing; the last one stays.
func TestJuggle(t *testing.T) {
	for _, steps := range [][]string{
		{"||"},
		// One item; Hot has more than a fifth, and Warm more than two fifths, of one.
		{"a||", "||a"}, {"A||", "|a|", "||a"}, {"|a|", "||a"}, {"|A|", "|a|", "||a"}, {"||a"}, {"||A", "|a|", "||a"},
		// Five times as many in Hot as all together, and one more; and as many as are not a multiple of five.
		{"a||bcde"}, {"A||bcde"}, {"a||bcd", "||abcd"}, {"a||bcdef"}, {"ab||cdefghij"}, {"ab||cdefghi", "a||bcdefghi"}, {"ab||cdefghijk"},
		{"abc||defghijklmno"}, {"abc||defghijklmn", "ab||cdefghijklmn"}, {"abc|defghi|jklmno"}, {"abc|de|fghijklmn", "ab|de|cfghijklmn"}, {"aB||cdef", "a|b|cdef"},
		// Two fifths in Warm, and one more; and as many as are not a multiple of five.
		{"|ab|cde"}, {"|AB|cde"}, {"|abc|de", "|ab|cde"}, {"|ab|cd", "|a|bcd"}, {"|a|bc"}, {"|a|b", "||ab"}, {"|abcd|efghij"}, {"|abcde|fghij", "|abcd|efghij"},
		{"|abcd|efghi", "|abc|defghi"}, {"|abcdef|ghijklmno"}, {"|abcdef|ghijklmn", "|abcde|fghijklmn"}, {"a|bcd|efgh"}, {"a|bcd|efg", "a|bc|defg"},
		// An Active item goes from Warm to Warm, as its youngest one.
		{"|ABC|de", "|cAB|de", "|bcA|de", "|abc|de", "|ab|cde"}, {"|aBC|de", "|caB|de", "|bca|de", "|bc|ade"}, {"|A|", "|a|", "||a"}, {"|abC|de", "|cab|de", "|ca|bde"},
		{"|Abc|de", "|Ab|cde"},
		// Cold's last one is Active; one that is not the last one stays.
		{"||abC", "|c|ab"}, {"||Abc"}, {"||aBc"}, {"||ABC", "|c|AB", "|bc|A", "|b|cA", "|ab|c", "|a|bc"}, {"||abcdE", "|e|abcd"}, {"||abcDE", "|e|abcD", "|de|abc"},
		{"|ab|cdE", "|eab|cd", "|ea|bcd"}, {"a|bc|deF", "a|fbc|de", "a|fb|cde"},
		// Hot's is ahead of Warm's, and Warm's of Cold's.
		{"aB|cD|eF", "a|bcD|eF", "a|dbc|eF", "a|db|ceF", "a|fdb|ce", "a|fd|bce"}, {"ab|cde|F", "a|cde|bF", "a|cd|ebF", "a|fcd|eb", "a|fc|deb"},
		{"ab||C", "a||bC", "||abC", "|c|ab"}, {"|abc|D", "|ab|cD", "|a|bcD", "|da|bc", "|d|abc"},
		{"ABCDE||", "ABCD|e|", "ABC|de|", "AB|cde|", "A|bcde|", "A|bcd|e", "A|bc|de"}, {"abcde||", "abcd||e", "abc||de", "ab||cde", "a||bcde"},
	} {
		w := drawn(t, steps[0])
		for _, drawing := range steps[1:] {
			if !w.juggle(0) {
				t.Errorf("from %s on to %s: nothing applied", steps[0], drawing)
			}
			w.looks(drawing)
		}
		for range 2 {
			if w.juggle(0) {
				t.Errorf("from %s on: something applied behind %s", steps[0], steps[len(steps)-1])
			}
			w.looks(steps[len(steps)-1])
		}
	}
}

// Promise 13.2: an item that goes is not Active any more, is in the segment that its header says, and is else what it was: each way, with each number of bits.
func TestJuggleBits(t *testing.T) {
	for _, c := range []struct{ from, bits, to, now int }{
		{0, 1, 2, 1}, {0, 3, 2, 3}, {0, 5, 1, 1}, {0, 7, 1, 3}, {1, 1, 2, 1}, {1, 3, 2, 3}, {1, 5, 1, 1}, {1, 7, 1, 3}, {2, 1, 2, 1}, {2, 3, 2, 3}, {2, 5, 1, 1}, {2, 7, 1, 3},
	} {
		w := made(t, 1, "g")
		w.put(0, 0, c.from, c.bits, api.OK)
		if w.juggle(0) != (c.from != c.to || c.bits != c.now) {
			t.Errorf("from %d with bits %d: whether one applied is wrong", c.from, c.bits)
		}
		seg, _ := item.Get(w.a, 0, item.FSeg)
		bits, e := item.Get(w.a, 0, item.FBits)
		if seg != c.to || bits != c.now || e != api.OK {
			t.Errorf("from %d with bits %d: segment %d, bits %d, error %d", c.from, c.bits, seg, bits, e)
		}
	}
}

// Promise 13.2: an item that is held goes as each other one.
func TestJuggleOfHeld(t *testing.T) {
	w := drawn(t, "aB|cD|eF")
	for _, c := range []byte("abcdef") {
		w.hold(spotOf(c), 200)
	}
	for _, drawing := range []string{"a|bcD|eF", "a|dbc|eF", "a|db|ceF", "a|fdb|ce", "a|fd|bce"} {
		if !w.juggle(0) {
			t.Errorf("nothing applied ahead of %s", drawing)
		}
		w.looks(drawing)
	}
}

// Promise 13.2: what went from Hot to Warm is Active again if it was used once since.
func TestUsedSinceItWent(t *testing.T) {
	w := made(t, 1, "g")
	for i := range 5 {
		w.add(0, spot(i), api.OK)
	}
	w.looks("edcba||")
	w.bump(0, spotOf('a'), api.OK)
	w.bump(0, spotOf('b'), api.OK)
	w.bump(0, spotOf('b'), api.OK)
	w.looks("edcBa||")
	w.juggle(0)
	w.juggle(0)
	w.looks("edc|b|a")
	w.bump(0, spotOf('a'), api.OK)
	w.bump(0, spotOf('b'), api.OK)
	w.looks("edc|B|A")
	w.juggle(0)
	w.juggle(0)
	w.looks("e|B|dcA")
	w.juggle(0)
	w.looks("e|aB|dc")
	w.put(0, spotOf('f'), 1, 1, api.OK)
	w.looks("e|faB|dc")
	w.juggle(0)
	w.looks("e|bfa|dc")
	w.juggle(0)
	w.looks("e|bf|adc")
}

// Promise 13.2: each number of items in Hot, Warm and Cold up to 9, with each segment's last one Active or not: one Juggle.
func TestJuggleOfAllCounts(t *testing.T) {
	for n := range 10 * 10 * 10 {
		counts := [3]int{n % 10, n / 10 % 10, n / 100}
		for active := range 8 {
			w := made(t, 1, "gg")
			next := 0
			for seg, count := range counts {
				for i := range count {
					bits := 1
					if i == 0 && active>>seg&1 == 1 {
						bits = 5
					}
					if e := w.lrus[0].Put(spot(next), seg, bits); e != api.OK {
						t.Fatalf("Put: error %d", e)
					}
					w.lay(0, spot(next), seg, bits)
					next++
				}
			}
			w.juggle(0)
		}
	}
}

// Promise 13.2: the item that goes first: of Cold from its last one on, then of Warm, then of Hot, the first one that is not held, of the first five.
func TestVictim(t *testing.T) {
	for _, c := range []struct {
		drawing, held string
		victim        byte
		e             api.Errno
	}{
		{"||", "", 0, api.ErrNone}, {"a||", "", 'a', api.OK}, {"|a|", "", 'a', api.OK}, {"||a", "", 'a', api.OK},
		{"ab|cd|ef", "", 'f', api.OK}, {"ab|cd|", "", 'd', api.OK}, {"ab||", "", 'b', api.OK}, {"ab||c", "", 'c', api.OK}, {"AB|CD|EF", "", 'f', api.OK}, {"ab|cd|eF", "", 'f', api.OK},
		// One after another, all in Cold, and over the ends of segments.
		{"||abcdefg", "g", 'f', api.OK}, {"||abcdefg", "gf", 'e', api.OK}, {"||abcdefg", "gfe", 'd', api.OK}, {"||abcdefg", "gfed", 'c', api.OK},
		{"ab|cd|ef", "f", 'e', api.OK}, {"ab|cd|ef", "ef", 'd', api.OK}, {"ab|cd|ef", "def", 'c', api.OK}, {"ab|cd|ef", "cdef", 'b', api.OK},
		{"a|bc|de", "e", 'd', api.OK}, {"a|bc|de", "dec", 'b', api.OK}, {"a|bc|de", "bcde", 'a', api.OK}, {"abc||de", "de", 'c', api.OK}, {"|abc|de", "cde", 'b', api.OK},
		{"abcde||", "edcb", 'a', api.OK}, {"|abcde|", "edcb", 'a', api.OK}, {"||abcde", "edcb", 'a', api.OK}, {"||abcde", "c", 'e', api.OK}, {"||abcde", "ec", 'd', api.OK},
		// The first five are held, and the one behind them is not.
		{"||abcdefg", "gfedc", 0, api.ErrBusy}, {"|abcdefg|", "gfedc", 0, api.ErrBusy}, {"abcdefg||", "gfedc", 0, api.ErrBusy}, {"ab|cd|ef", "bcdef", 0, api.ErrBusy},
		{"a||bcdef", "bcdef", 0, api.ErrBusy}, {"|a|bcdef", "bcdef", 0, api.ErrBusy}, {"a|bcdef|", "bcdef", 0, api.ErrBusy}, {"ab|c|defg", "cdefg", 0, api.ErrBusy},
		{"ab|cdefg|hijklm", "mlkji", 0, api.ErrBusy}, {"ab|cdefg|hijklm", "mlkj", 'i', api.OK}, {"ab|cdefg|hijklm", "hmlkj", 'i', api.OK},
		// In Cold all are held, while Warm or Hot have one that is not.
		{"ab|cd|efgh", "efgh", 'd', api.OK}, {"ab||efgh", "efgh", 'b', api.OK}, {"ab|c|def", "def", 'c', api.OK}, {"ab|c|def", "cdef", 'b', api.OK}, {"a|b|c", "c", 'b', api.OK}, {"a|b|c", "bc", 'a', api.OK},
		// All are held, and less than five.
		{"a||", "a", 0, api.ErrBusy}, {"|a|", "a", 0, api.ErrBusy}, {"||a", "a", 0, api.ErrBusy}, {"a|b|c", "abc", 0, api.ErrBusy}, {"|ab|cd", "abcd", 0, api.ErrBusy}, {"a|b|cde", "abcde", 0, api.ErrBusy},
		// What is held, but not among the first ones, is of no matter.
		{"ab|cd|ef", "abcde", 'f', api.OK}, {"ab|cd|ef", "abcd", 'f', api.OK}, {"a|b|", "a", 'b', api.OK},
	} {
		w := drawn(t, c.drawing)
		for i, letter := range []byte(c.held) {
			w.hold(spotOf(letter), []int{1, 2, 250, 255, 128, 16}[i%6])
		}
		w.same("Hold")
		want := 0
		if c.victim != 0 {
			want = spotOf(c.victim)
		}
		for range 2 {
			if at, e := w.lrus[0].Victim(); at != want || e != c.e {
				t.Errorf("Victim of %s, with %s held: %d, error %d, not %d, error %d", c.drawing, c.held, at, e, want, c.e)
			}
		}
		w.looks(c.drawing)
		w.same("Victim")
	}
}

// Promise 13.2: each number of FRefs but 0 is one that is held.
func TestVictimOfEachRefs(t *testing.T) {
	w := drawn(t, "|a|b")
	for refs := range 256 {
		w.hold(spotOf('b'), refs)
		want := spotOf('b')
		if refs != 0 {
			want = spotOf('a')
		}
		if at, e := w.lrus[0].Victim(); at != want || e != api.OK {
			t.Errorf("with %d: %d, error %d", refs, at, e)
		}
	}
}

// Promise 13.2: all that may be held of eight items, in several shapes.
func TestVictimOfAllThatAreHeld(t *testing.T) {
	for _, drawing := range []string{"||abcdefgh", "|abcdefgh|", "abcdefgh||", "ab|cdE|fgh", "a|b|cdefgh", "abcdef|g|h", "abcd||efgh", "|abcd|efgh", "abcd|efgh|", "abc|defg|h"} {
		w := drawn(t, drawing)
		for held := range 1 << 8 {
			for i := range 8 {
				w.hold(spot(i), held>>i&1*(i+1))
			}
			w.told(0, "Hold")
		}
	}
}

// Promise 13.2: an item that goes first is dropped, and the one behind it goes first then, till nothing is left.
func TestVictimsOneAfterAnother(t *testing.T) {
	w := drawn(t, "abC|dEf|Ghi")
	for _, c := range []byte("ihgfedcba") {
		at, e := w.lrus[0].Victim()
		if at != spotOf(c) || e != api.OK {
			t.Fatalf("Victim: %d, error %d, not %c", at, e, c)
		}
		w.drop(0, at, api.OK)
	}
	w.looks("||")
}

// Promise 13.2: a segment's list of another number is nothing, and no Lru is changed by the question.
func TestListOfAnotherNumber(t *testing.T) {
	for _, drawing := range []string{"||", "a||", "||a", "ab|cd|ef"} {
		w := drawn(t, drawing)
		for seg := -300; seg <= 300; seg++ {
			if list := w.lrus[0].List(seg); len(list) != 0 && (seg < 0 || seg > 2) {
				t.Errorf("List(%d) of %s: %v", seg, drawing, list)
			}
		}
		for _, seg := range noSegments {
			if list := w.lrus[0].List(seg); len(list) != 0 {
				t.Errorf("List(%d) of %s: %v", seg, drawing, list)
			}
		}
		w.same("List")
	}
}

// Promise 13.2 and rule R4: a list that is handed out is its asker's alone: what he writes into it, and behind its end, is in no other, nor in the queues.
func TestListIsHandedOut(t *testing.T) {
	w := drawn(t, "abc|de|fghi")
	for seg := range 3 {
		want := slices.Clone(w.lists[0][seg])
		first, second := w.lrus[0].List(seg), w.lrus[0].List(seg)
		first = first[:cap(first)]
		for i := range first {
			first[i] = 5
		}
		if !slices.Equal(second, want) {
			t.Errorf("two answers share memory: %v, not %v", second, want)
		}
		second = append(second, 7)
		second[0] = 6
		w.same("a change of lists that were handed out")
		third := w.lrus[0].List(seg)
		w.drop(0, third[0], api.OK)
		w.put(0, spot(20+seg), seg, 1, api.OK)
		if !slices.Equal(third, want) {
			t.Errorf("a list that was handed out goes with the queue: %v, not %v", third, want)
		}
	}
}

// Promises 13.1 and 13.2: of an item's header FPrev, FAfter, FSeg and FBits alone are changed: it is what it was, wherever it goes.
func TestItemsStay(t *testing.T) {
	table := []int{128, 1024}
	a, _ := arena.New(2)
	a.Grant(0)
	a.Grant(0)
	l := New(a)
	items := map[int]item.Item{}
	for i := range 16 {
		at := i * 128
		x := item.Item{Key: strings.Repeat("k", i+1), Value: strings.Repeat("v", 3*i), Flags: uint32(i) << 20, Exp: math.MaxUint32 - uint32(i), Cas: math.MaxUint64 - uint64(i)}
		items[at] = x
		if e := item.Write(a, table, []int{at}, x); e != api.OK {
			t.Fatalf("item %d: error %d", i, e)
		}
		item.Set(a, at, item.FNext, at+1)
		item.Set(a, at, item.FRefs, i%4)
	}
	stay := func(after string) {
		for at, x := range items {
			got, e := item.Read(a, table, at)
			if got != x || e != api.OK {
				t.Fatalf("the item at %d behind %s: %v, error %d", at, after, got, e)
			}
			for field, v := range map[int]int{item.FNext: at + 1, item.FMore: -1, item.FRefs: at / 128 % 4} {
				if got, e := item.Get(a, at, field); got != v || e != api.OK {
					t.Fatalf("field %d of the item at %d behind %s: %d, error %d, not %d", field, at, after, got, e, v)
				}
			}
		}
	}
	for i := range 16 {
		if i%3 == 0 {
			l.Add(i * 128)
		} else {
			l.Put(i*128, i%3, rightBits[i%4])
		}
		stay("Add or Put")
	}
	for i := range 64 {
		l.Bump(i * 5 % 16 * 128)
		stay("Bump")
		l.Juggle()
		stay("Juggle")
		l.Victim()
		stay("Victim")
	}
	for i := range 16 {
		l.Drop(i * 5 % 16 * 128)
		stay("Drop")
	}
	if hot, warm, cold := l.Counts(); hot+warm+cold != 0 {
		t.Errorf("items that are left: %d, %d, %d", hot, warm, cold)
	}
}

// Promise 13.1: two Lrus over one arena, as each class has its own, have nothing in common; what one let go of the other one takes.
func TestTwoLrus(t *testing.T) {
	w := made(t, 2, "gg")
	for i := range 12 {
		w.put(i%2, spot(i), i/2%3, 1, api.OK)
	}
	for i := range 12 {
		w.drop(1-i%2, spot(i), api.ErrNone)
		w.bump(1-i%2, spot(i), api.ErrNone)
		w.bump(i%2, spot(i), api.OK)
		w.juggle(i % 2)
	}
	for i := range 12 {
		w.drop(i%2, spot(i), api.OK)
		w.add(1-i%2, spot(i), api.OK)
		w.juggle(0)
		w.juggle(1)
	}
}

// Promise 13.1: Lrus over two arenas have the same places, and nothing in common.
func TestTwoArenas(t *testing.T) {
	one, other := drawn(t, "ab|c|de"), made(t, 1, "gf")
	other.add(0, spotOf('a'), api.OK)
	other.put(0, spotOf('d'), 1, 7, api.OK)
	other.add(0, 1024, api.ErrRange)
	other.bump(0, spotOf('b'), api.ErrNone)
	other.juggle(0)
	one.same("calls in another arena")
	one.drop(0, spotOf('a'), api.OK)
	one.bump(0, spotOf('d'), api.OK)
	other.same("calls in another arena")
}

// Promise 13.1: a page that is given back while no item of it is in a queue: nothing of it is taken, till it is granted anew.
func TestPageThatIsGivenBack(t *testing.T) {
	w := made(t, 1, "gg")
	w.add(0, 0, api.OK)
	w.add(0, 1024, api.OK)
	w.drop(0, 1024, api.OK)
	w.a.Return(1)
	w.granted[1] = false
	w.add(0, 1024, api.ErrRange)
	w.put(0, 1024, 2, 1, api.ErrRange)
	w.put(0, 1024, 3, 1, api.ErrField)
	w.drop(0, 1024, api.ErrNone)
	w.bump(0, 1024, api.ErrNone)
	w.a.Grant(3)
	w.granted[1] = true
	clear(w.bytes[size:])
	w.put(0, 1024, 2, 3, api.OK)
	w.add(0, 1064, api.OK)
}

// Promise 13.3: each item is in just the queue of its segment: what its header says, and where it is found, behind calls without order, of several Lrus.
func TestManyCalls(t *testing.T) {
	for seed := range 80 {
		pages := []string{"gg", "gfg", "fggf", "g", "gggg"}[seed%5]
		w := made(t, 1+seed%3, pages)
		dice := noise(uint64(seed)+100, 4*300)
		for len(dice) > 0 {
			w.someCall(dice[:4])
			dice = dice[4:]
		}
		for n, l := range w.lrus {
			found := map[int]int{}
			for seg := range 3 {
				for _, at := range l.List(seg) {
					found[at]++
					got, e := item.Get(w.a, at, item.FSeg)
					bits, _ := item.Get(w.a, at, item.FBits)
					if got != seg || bits&1 == 0 || e != api.OK {
						t.Errorf("in segment %d of Lru %d: one with segment %d, bits %d, error %d", seg, n, got, bits, e)
					}
				}
			}
			for at, times := range found {
				if times != 1 {
					t.Errorf("the item at %d is in %d queues", at, times)
				}
			}
		}
	}
}

// someCall does the call that four bytes without order tell; an item is of one Lru alone.
func (w *world) someCall(dice []byte) {
	w.t.Helper()
	n := int(dice[1]) % len(w.lrus)
	at := spot(int(dice[2]) % (25 * len(w.granted)))
	if dice[0] >= 245 {
		at = farAways[int(dice[2])%len(farAways)]
	}
	for other := range w.lists {
		if _, there := w.segmentOf(other, at); there {
			n = other
		}
	}
	seg, bits := int(dice[3])%3, rightBits[dice[3]/3%4]
	if dice[3] >= 240 {
		seg, bits = noSegments[int(dice[3])%len(noSegments)], noBits[int(dice[2])%len(noBits)]
	}
	switch dice[0] % 16 {
	case 0, 1:
		w.add(n, at, w.addError(n, at))
	case 2, 3, 4:
		w.put(n, at, seg, bits, w.putError(n, at, seg, bits))
	case 5:
		w.drop(n, at, w.thereError(n, at))
	case 6, 7, 8, 9, 10:
		w.bump(n, at, w.thereError(n, at))
	case 11:
		if w.mayBeQueued(at) {
			w.hold(at, int(dice[3])*(int(dice[3])%2))
		}
	default:
		w.juggle(n)
	}
}

// Promise 13.3: juggling ends: at most three times as many steps as there are items; all ways in which up to six items are in the segments, Active or not.
func TestJugglingEnds(t *testing.T) {
	for n := range 7 {
		for hot := 0; hot <= n; hot++ {
			for warm := 0; hot+warm <= n; warm++ {
				for active := range 1 << n {
					w := made(t, 1, "g")
					for i := range n {
						seg := 0
						if i >= hot {
							seg = 1
						}
						if i >= hot+warm {
							seg = 2
						}
						bits := 3 + active>>i&1*4
						if e := w.lrus[0].Put(spot(i), seg, bits); e != api.OK {
							t.Fatalf("Put: error %d", e)
						}
						w.lay(0, spot(i), seg, bits)
					}
					w.jugglesToItsEnd()
				}
			}
		}
	}
}

// jugglesToItsEnd juggles till nothing applies, and looks at what that ends with.
func (w *world) jugglesToItsEnd() {
	w.t.Helper()
	hot, warm, cold := w.lrus[0].Counts()
	n := hot + warm + cold
	steps := 0
	for w.juggle(0) {
		steps++
		if steps > 3*n {
			w.t.Fatalf("of %d items, from %d, %d, %d on: still something behind %d steps", n, hot, warm, cold, steps)
		}
	}
	endHot, endWarm, endCold := w.lrus[0].Counts()
	if endHot+endWarm+endCold != n || endHot > n/5 || endWarm > 2*n/5 || w.juggle(0) {
		w.t.Fatalf("of %d items, from %d, %d, %d on: %d, %d, %d", n, hot, warm, cold, endHot, endWarm, endCold)
	}
}

// Promise 13.3: the same of many items without order.
func TestJugglingOfManyEnds(t *testing.T) {
	for seed := range 40 {
		w := made(t, 1, "ggg")
		for i, v := range noise(uint64(seed)+500, 1+seed*74/39) {
			seg, bits := int(v)%3, rightBits[v/3%4]
			if seed%4 == 0 {
				seg = seed / 4 % 3
			}
			if e := w.lrus[0].Put(spot(i), seg, bits); e != api.OK {
				t.Fatalf("Put: error %d", e)
			}
			w.lay(0, spot(i), seg, bits)
		}
		w.jugglesToItsEnd()
	}
}

// Promise 13.3: what was used twice does not go from Hot to Cold, but by way of Warm; what was used once, or not, does.
func TestUsedTwice(t *testing.T) {
	for used := range 3 * 3 * 3 * 3 {
		w := made(t, 1, "g")
		times := [4]int{used % 3, used / 3 % 3, used / 9 % 3, used / 27}
		for i, n := range times {
			w.add(0, spot(i), api.OK)
			for range n {
				w.bump(0, spot(i), api.OK)
			}
		}
		for {
			hot := w.lrus[0].List(Hot)
			if !w.juggle(0) {
				break
			}
			if len(hot) == 0 || slices.Contains(w.lrus[0].List(Hot), hot[len(hot)-1]) {
				continue
			}
			last := hot[len(hot)-1]
			to := Cold
			if times[last/header] == 2 {
				to = Warm
			}
			if !slices.Contains(w.lrus[0].List(to), last) {
				t.Errorf("one that was used %d times went from Hot elsewhere than to %d", times[last/header], to)
			}
		}
	}
}

// Promises 13.1 to 13.3: in an arena of all pages that there may be, as many items as go into it.
func TestAllPages(t *testing.T) {
	a, _ := arena.New(32)
	for range 32 {
		a.Grant(1)
	}
	l := New(a)
	for i := range 800 {
		if e := l.Add(spot(i)); e != api.OK {
			t.Fatalf("Add(%d): error %d", spot(i), e)
		}
		for range i % 3 {
			l.Bump(spot(i))
		}
	}
	if hot, warm, cold := l.Counts(); hot != 800 || warm != 0 || cold != 0 {
		t.Fatalf("Counts: %d, %d, %d", hot, warm, cold)
	}
	steps := 0
	for l.Juggle() && steps <= 2400 {
		steps++
	}
	// Of the 640 that went from Hot a third was used twice: less than two fifths of all, so all of it is in Warm.
	var warm, cold []int
	for i := range 640 {
		if i%3 == 2 {
			warm = append(warm, spot(i))
		} else {
			cold = append(cold, spot(i))
		}
	}
	slices.Reverse(warm)
	slices.Reverse(cold)
	if steps != 640 || !slices.Equal(l.List(Warm), warm) || !slices.Equal(l.List(Cold), cold) || len(l.List(Hot)) != 160 {
		t.Errorf("behind %d steps: %d, %d, %d", steps, len(l.List(Hot)), len(l.List(Warm)), len(l.List(Cold)))
	}
	if at, e := l.Victim(); at != 0 || e != api.OK {
		t.Errorf("Victim: %d, error %d", at, e)
	}
	for i := range 800 {
		if e := l.Drop(spot(799 - i)); e != api.OK {
			t.Fatalf("Drop(%d): error %d", spot(799-i), e)
		}
	}
	if at, e := l.Victim(); at != 0 || e != api.ErrNone {
		t.Errorf("Victim, where all were dropped: %d, error %d", at, e)
	}
}

// Rule R1: all calls end, and none panics, also where somebody else changed the headers of items that are in a queue, or gave their page back.
func TestCallsEnd(t *testing.T) {
	all := func(w *world) {
		l := w.lrus[0]
		for _, at := range append([]int{0, 4, 36, 40, 80, 120, 985, 1024, 1064, 2048}, farAways...) {
			l.Add(at)
			l.Put(at, at%4, at%9)
			l.Bump(at)
			l.Juggle()
			l.Victim()
			l.Drop(at)
			for seg := range 5 {
				l.List(seg - 1)
			}
			l.Counts()
		}
	}
	for _, field := range []int{item.FPrev, item.FAfter, item.FSeg, item.FBits, item.FRefs} {
		for _, v := range []int{0, 1, 3, 40, 120, 255, 984, 1023, 2048, 5000, math.MaxInt32} {
			for _, c := range []byte("abcdefg") {
				w := drawn(t, "Ab|cD|eFg")
				item.Set(w.a, spotOf(c), field, v)
				all(w)
			}
		}
	}
	w := drawn(t, "Ab|cD|eFg")
	w.a.Return(0)
	all(w)
	w.a.Return(1)
	all(w)
	w.a.Grant(0)
	all(w)
	w.a.Grant(0)
	all(w)
}
