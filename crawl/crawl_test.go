package crawl

import (
	"bytes"
	"math"
	"slices"
	"strings"
	"testing"

	"tallboy/api"
	"tallboy/arena"
	"tallboy/item"
	"tallboy/links"
)

// size is how many bytes a page has, header how many an item's header.
const (
	size   = 1024
	header = 40
)

// Where a header has what a walk changes.
const (
	prevAt  = 4
	afterAt = 8
	keyAt   = 34
)

// far is a whole number beyond all that an arena has, whose lowest 32 bits are 0.
const far = 1 << 32

// farAways are addresses in no arena; some have a right one as their lowest bits.
var farAways = []int{-1, -2, -3, -34, -35, -39, -40, -41, -64, -1023, -1024, -1025, -2048, math.MinInt32, -far, -far + 64, math.MinInt, math.MinInt + 1, math.MinInt + 64,
	32 * size, 32*size + 64, 33 * size, 1 << 16, math.MaxInt32, 1 << 31, far - 1, far, far + 64, far + 1024, 1 << 62, math.MaxInt, math.MaxInt - 1, math.MaxInt - 34,
	math.MaxInt - 39, math.MaxInt - 40, math.MaxInt - 1023, math.MaxInt - 1024}

// known is what must be of a walk: along which queue it goes, -1 where none is under way, and its mark.
type known struct{ queue, mark int }

// world is queues over one arena, walks along them, and what they must be: each queue's items with the marks among them, and all bytes.
type world struct {
	t       *testing.T
	a       *arena.Arena
	granted []bool
	bytes   []byte
	queues  []*links.Queue
	lists   [][]int
	crawls  []*Crawl
	walks   []known
}

// made is so many queues without items, and so many walks that have not begun,
// over an arena with a page for each sign, g: granted, with bytes without order, f: free.
func made(t *testing.T, queues, crawls int, pages string) *world {
	t.Helper()
	a, e := arena.New(len(pages))
	if e != api.OK {
		t.Fatalf("an arena of %d pages: error %d", len(pages), e)
	}
	w := &world{t: t, a: a, granted: make([]bool, len(pages)), bytes: noise(uint64(len(pages)), len(pages)*size), lists: make([][]int, queues)}
	for page := range pages {
		a.Grant(page % 8)
		a.Write(page*size, w.bytes[page*size:(page+1)*size])
	}
	for page, sign := range pages {
		w.granted[page] = sign == 'g'
		if sign == 'f' {
			a.Return(page)
		}
	}
	for range queues {
		w.queues = append(w.queues, links.New(a))
	}
	for range crawls {
		w.crawls = append(w.crawls, New(a))
		w.walks = append(w.walks, known{queue: -1})
	}
	w.same("New")
	return w
}

// noise is n bytes without order, others for each seed.
func noise(seed uint64, n int) []byte {
	v := 88172645463325252 + seed*0x9E3779B97F4A7C15
	b := make([]byte, n)
	for i := range b {
		v ^= v << 13
		v ^= v >> 7
		v ^= v << 17
		b[i] = byte(v >> 24)
	}
	return b
}

// spot is where the header with a number lies, of as many in a page as go into it.
func spot(i int) int { return i/25*size + i%25*header }

// The names of places in drawings, one for each spot: * and + are marks.
const names = "abcdefghijklmnopqrstuvwxyz*+"

// placeOf is the place that a name stands for.
func placeOf(name byte) int { return spot(strings.IndexByte(names, name)) }

// nameOf is the name of a place.
func nameOf(at int) byte { return names[at/size*25+at%size/header] }

// drawn is a world with one queue of the items that a drawing has, the youngest first, and with two walks that have not begun.
func drawn(t *testing.T, drawing string) *world {
	t.Helper()
	w := made(t, 1, 2, "gg")
	for _, name := range slices.Backward([]byte(drawing)) {
		w.push(0, placeOf(name))
	}
	w.looks(drawing)
	return w
}

// looks holds the first queue against a drawing.
func (w *world) looks(drawing string) {
	w.t.Helper()
	var text strings.Builder
	for _, at := range w.queues[0].List() {
		text.WriteByte(nameOf(at))
	}
	if got := text.String(); got != drawing {
		w.t.Fatalf("it is %q, not %q", got, drawing)
	}
}

// lies tells whether each byte of a header lies within a granted page, and all in one.
func (w *world) lies(at int) bool {
	if at < 0 || at >= len(w.bytes) {
		return false
	}
	for i := range header {
		if at+i >= len(w.bytes) || !w.granted[at/size] || (at+i)/size != at/size {
			return false
		}
	}
	return true
}

// startError is what Start must answer.
func (w *world) startError(c, n, mark int) api.Errno {
	switch {
	case w.walks[c].queue >= 0:
		return api.ErrState
	case !w.lies(mark):
		return api.ErrRange
	case slices.Contains(w.lists[n], mark):
		return api.ErrTwice
	case len(w.lists[n]) == 0:
		return api.ErrNone
	}
	return api.OK
}

// start does a Start, whose error the test names, and holds all against what it must be.
func (w *world) start(c, n, mark int, e api.Errno) {
	w.t.Helper()
	if want := w.startError(c, n, mark); want != e {
		w.t.Fatalf("the test says error %d of Start(%d) along %v, the document %d", e, mark, w.lists[n], want)
	}
	if got := w.crawls[c].Start(w.queues[n], mark); got != e {
		w.t.Fatalf("Start(%d) along %v: error %d, not %d", mark, w.lists[n], got, e)
	}
	if e == api.OK {
		w.walks[c] = known{queue: n, mark: mark}
		w.bytes[mark+keyAt] = 0
		w.now(n, append(slices.Clone(w.lists[n]), mark))
	}
	w.same("Start")
}

// step does a Step, holds all against what it must be, and answers what it answers.
func (w *world) step(c int) (int, bool) {
	w.t.Helper()
	at, ok := 0, false
	if walk := w.walks[c]; walk.queue >= 0 {
		list := slices.Clone(w.lists[walk.queue])
		i := slices.Index(list, walk.mark)
		if i > 0 {
			at, ok = list[i-1], true
			list[i-1], list[i] = list[i], list[i-1]
			w.now(walk.queue, list)
		} else {
			at = w.over(c)
		}
	}
	if got, gotOK := w.crawls[c].Step(); got != at || gotOK != ok {
		w.t.Fatalf("Step: %d, %t, not %d, %t; the queues are then %v", got, gotOK, at, ok, w.lists)
	}
	w.same("Step")
	return at, ok
}

// stop does a Stop, holds all against what it must be, and answers what it answers.
func (w *world) stop(c int) (int, bool) {
	w.t.Helper()
	at, ok := 0, w.walks[c].queue >= 0
	if ok {
		at = w.over(c)
	}
	if got, gotOK := w.crawls[c].Stop(); got != at || gotOK != ok {
		w.t.Fatalf("Stop: %d, %t, not %d, %t; the queues are then %v", got, gotOK, at, ok, w.lists)
	}
	w.same("Stop")
	return at, ok
}

// over ends a walk in what must be, and answers its mark.
func (w *world) over(c int) int {
	walk := w.walks[c]
	w.leave(walk.queue, walk.mark)
	w.walks[c] = known{queue: -1}
	return walk.mark
}

// push lays an item ahead of all, as others do while a walk is under way.
func (w *world) push(n, at int) {
	w.t.Helper()
	if e := w.queues[n].Push(at); e != api.OK {
		w.t.Fatalf("Push(%d) onto %v: error %d", at, w.lists[n], e)
	}
	w.now(n, slices.Insert(slices.Clone(w.lists[n]), 0, at))
	w.same("Push")
}

// lay lays an item behind another one, as others do.
func (w *world) lay(n, behind, at int) {
	w.t.Helper()
	if e := w.queues[n].Insert(behind, at); e != api.OK {
		w.t.Fatalf("Insert(%d, %d) into %v: error %d", behind, at, w.lists[n], e)
	}
	w.now(n, slices.Insert(slices.Clone(w.lists[n]), slices.Index(w.lists[n], behind)+1, at))
	w.same("Insert")
}

// take takes an item out, as others do.
func (w *world) take(n, at int) {
	w.t.Helper()
	if e := w.queues[n].Remove(at); e != api.OK {
		w.t.Fatalf("Remove(%d) from %v: error %d", at, w.lists[n], e)
	}
	w.leave(n, at)
	w.same("Remove")
}

// leave makes an item one of a queue no longer in what must be.
func (w *world) leave(n, at int) {
	w.layFields(at, -1, -1)
	w.now(n, slices.DeleteFunc(slices.Clone(w.lists[n]), func(other int) bool { return other == at }))
}

// now lays what a queue must be, and what its items' fields must say.
func (w *world) now(n int, list []int) {
	w.lists[n] = list
	for i, at := range list {
		ahead, behind := -1, -1
		if i > 0 {
			ahead = list[i-1]
		}
		if i+1 < len(list) {
			behind = list[i+1]
		}
		w.layFields(at, ahead, behind)
	}
}

// layFields lays into the bytes that must be there what an item's FPrev and FAfter must say, the lowest byte first.
func (w *world) layFields(at, ahead, behind int) {
	for i := range 4 {
		w.bytes[at+prevAt+i] = byte(ahead >> (8 * i))
		w.bytes[at+afterAt+i] = byte(behind >> (8 * i))
	}
}

// same holds the arena's bytes, the queues, and what the walks tell, against what they must be.
func (w *world) same(after string) {
	w.t.Helper()
	for page, granted := range w.granted {
		got, e := w.a.Read(page*size, size)
		if (e == api.OK) != granted || granted && !bytes.Equal(got, w.bytes[page*size:(page+1)*size]) {
			w.t.Fatalf("page %d behind %s: error %d, or other bytes", page, after, e)
		}
	}
	for n, list := range w.lists {
		if got := w.queues[n].List(); !slices.Equal(got, list) {
			w.t.Fatalf("queue %d behind %s: %v, not %v", n, after, got, list)
		}
	}
	for c, walk := range w.walks {
		if got := w.crawls[c].Walks(); got != (walk.queue >= 0) {
			w.t.Fatalf("Walks behind %s: %t", after, got)
		}
	}
}

// goes does what lines tell of the first walk along the first queue, and holds what was answered, and the queue's drawing
// (- of one without items), against them. The lines are
//
//	start MARK ERROR DRAWING
//	step NAME DRAWING           Step: the name's place, and true
//	over MARK DRAWING           Step: the mark, and false
//	stop MARK DRAWING           Stop: the mark, and true
//	none DRAWING                Step, Stop, and Step: 0, and false
//	push NAME DRAWING
//	take NAME DRAWING
//	lay NAME BEHIND DRAWING
func (w *world) goes(lines ...string) {
	w.t.Helper()
	for _, line := range lines {
		w.t.Log(line)
		words := strings.Fields(line)
		// Of none it is no place, and not asked for.
		at := placeOf(words[1][0])
		switch words[0] {
		case "start":
			w.start(0, 0, at, api.Errno(words[2][0]-'0'))
		case "step", "over":
			got, ok := w.step(0)
			w.answered(got, ok, at, words[0] == "step")
		case "stop":
			got, ok := w.stop(0)
			w.answered(got, ok, at, true)
		case "none":
			for _, ask := range []func(int) (int, bool){w.step, w.stop, w.step} {
				got, ok := ask(0)
				w.answered(got, ok, 0, false)
			}
		case "push":
			w.push(0, at)
		case "take":
			w.take(0, at)
		case "lay":
			w.lay(0, placeOf(words[2][0]), at)
		default:
			w.t.Fatal("a line that is none")
		}
		w.looks(strings.Trim(words[len(words)-1], "-"))
	}
}

// answered holds an answer against what it is to be.
func (w *world) answered(at int, ok bool, wantAt int, wantOK bool) {
	w.t.Helper()
	if at != wantAt || ok != wantOK {
		w.t.Fatalf("%d, %t, not %d, %t", at, ok, wantAt, wantOK)
	}
}

// Promise 14.1: the chapter's example.
func TestExample(t *testing.T) {
	a, _ := arena.New(1)
	a.Grant(0)
	q := links.New(a)
	for _, at := range []int{0, 64, 128} {
		q.Push(at)
	}
	c := New(a)
	if c.Walks() {
		t.Error("a walk is under way that has not begun")
	}
	if e := c.Start(q, 192); e != api.OK || !c.Walks() {
		t.Fatalf("Start: error %d, Walks %t", e, c.Walks())
	}
	for i, want := range [][]int{{128, 64, 0, 192}, {128, 64, 192, 0}, {128, 192, 64, 0}, {192, 128, 64, 0}} {
		if list := q.List(); !slices.Equal(list, want) {
			t.Errorf("behind %d Steps: %v, not %v", i, list, want)
		}
		if at, ok := c.Step(); i < 3 && (at != 64*i || !ok || !c.Walks()) || i == 3 && (at != 192 || ok || c.Walks()) {
			t.Errorf("Step %d: %d, %t, Walks %t", i+1, at, ok, c.Walks())
		}
	}
	if list := q.List(); !slices.Equal(list, []int{128, 64, 0}) {
		t.Errorf("behind the walk: %v", list)
	}
}

// Promise 14.1: without a walk Step and Stop answer 0 and false, change nothing, and begin none: ahead of the first walk, behind one that came to its end, and behind one that was stopped.
func TestNoWalk(t *testing.T) {
	drawn(t, "cba").goes("none cba", "none cba",
		"start * 0 cba*", "step a cb*a", "step b c*ba", "step c *cba", "over * cba", "none cba", "none cba",
		"start * 0 cba*", "step a cb*a", "stop * cba", "none cba", "none cba",
		"start a 4 cba", "none cba", "none cba")
	drawn(t, "").goes("none -", "start * 3 -", "none -")
}

// Promise 14.1: the mark stands behind all, and its FKey is 0, whatever its header was, and however many there are.
func TestStart(t *testing.T) {
	for n := 1; n <= 8; n++ {
		for _, mark := range []int{0, spot(1), spot(20) + 3, 984, 1024, 1024 + 7, spot(48), 2008} {
			for key := range 256 {
				if key%50 > 1 && key < 254 {
					continue
				}
				w := made(t, 1, 1, "gg")
				for i := range n {
					w.push(0, spot(3+2*i))
				}
				item.Set(w.a, mark, item.FKey, key)
				w.bytes[mark+keyAt] = byte(key)
				w.start(0, 0, mark, api.OK)
				if last, ok := w.queues[0].Tail(); last != mark || !ok {
					t.Errorf("the last one behind Start(%d): %d, %t", mark, last, ok)
				}
				if v, e := item.Get(w.a, mark, item.FKey); v != 0 || e != api.OK {
					t.Errorf("FKey of the mark at %d: %d, error %d", mark, v, e)
				}
			}
		}
	}
}

// Promise 14.1: while a walk is under way each Start is ErrState, wherever it is, with whichever mark and queue; the walk goes on as if it had not been asked.
func TestStartWhileOneIsUnderWay(t *testing.T) {
	for steps := range 5 {
		w := made(t, 3, 1, "gfg")
		for i := range 4 {
			w.push(0, spot(i))
			w.push(1, spot(10+i))
		}
		w.start(0, 0, spot(20), api.OK)
		for range steps {
			w.step(0)
		}
		for n := range 3 {
			for _, mark := range append([]int{spot(20), spot(21), spot(0), spot(3), spot(10), 985, 1024, 2048, 3033, 3072}, farAways...) {
				w.start(0, n, mark, api.ErrState)
			}
		}
		for i := steps; i < 4; i++ {
			if at, ok := w.step(0); at != spot(i) || !ok {
				t.Errorf("Step %d: %d, %t", i+1, at, ok)
			}
		}
		if at, ok := w.step(0); at != spot(20) || ok {
			t.Errorf("the last Step: %d, %t", at, ok)
		}
		w.start(0, 1, spot(21), api.OK)
	}
}

// Promise 14.1: each address of an arena, of those near its ends and far away: a mark is one whose header lies within a granted page, and no other one.
func TestWhereMarksMayBe(t *testing.T) {
	for _, c := range []struct {
		pages string
		item  int
	}{{"g", 512}, {"gf", 512}, {"fg", 1536}, {"gfg", 2560}, {"gg", 1536}, {"fgf", 1536}, {"fffg", 3584}} {
		w := made(t, 1, 1, c.pages)
		w.push(0, c.item)
		addresses := slices.Clone(farAways)
		for at := -size - 50; at <= len(w.bytes)+size+50; at++ {
			if at == c.item || at <= c.item-header || at >= c.item+header {
				addresses = append(addresses, at)
			}
		}
		for _, at := range addresses {
			e := w.startError(0, 0, at)
			if (at+60)%size > 120 && at >= 0 && at%97 != 0 {
				// In the midst of pages without a look at all bytes: there are many of them.
				if got := w.crawls[0].Start(w.queues[0], at); got != e {
					t.Fatalf("Start(%d) in %s: error %d, not %d", at, c.pages, got, e)
				}
				if mark, ok := w.crawls[0].Stop(); ok && mark == at {
					w.layFields(at, -1, -1)
					w.bytes[at+keyAt] = 0
				}
				continue
			}
			w.start(0, 0, at, e)
			w.stop(0)
		}
	}
}

// Promise 14.1: a header that ends with its page is a mark; one of which the last byte alone lies outside is none, though the next page is granted.
func TestMarksAtPagesEnds(t *testing.T) {
	for _, c := range []struct {
		pages string
		at    int
		e     api.Errno
	}{
		{"g", 984, api.OK}, {"g", 985, api.ErrRange}, {"g", 1023, api.ErrRange}, {"g", 1024, api.ErrRange}, {"g", 0, api.OK}, {"g", -1, api.ErrRange}, {"g", -34, api.ErrRange},
		{"g", -39, api.ErrRange}, {"g", -40, api.ErrRange}, {"gg", 984, api.OK}, {"gg", 985, api.ErrRange}, {"gg", 1023, api.ErrRange}, {"gg", 1024, api.OK}, {"gg", 2008, api.OK},
		{"gg", 2009, api.ErrRange}, {"fg", 0, api.ErrRange}, {"fg", 985, api.ErrRange}, {"fg", 1023, api.ErrRange}, {"fg", 1024, api.OK}, {"gf", 984, api.OK}, {"gf", 985, api.ErrRange},
		{"gf", 1024, api.ErrRange}, {"gf", 2008, api.ErrRange}, {"gfg", 1500, api.ErrRange}, {"gfg", 2047, api.ErrRange}, {"gfg", 2048, api.OK}, {"gfg", 3032, api.OK}, {"gfg", 3033, api.ErrRange},
		{"gfg", 3072, api.ErrRange}, {"g", math.MaxInt, api.ErrRange}, {"g", math.MinInt, api.ErrRange}, {"g", far, api.ErrRange}, {"g", api.None, api.ErrRange},
	} {
		w := made(t, 1, 1, c.pages)
		w.push(0, strings.Index(c.pages, "g")*size+300)
		w.start(0, 0, c.at, c.e)
		if _, ok := w.stop(0); ok != (c.e == api.OK) {
			t.Errorf("Start(%d) in %s: a walk is under way: %t", c.at, c.pages, ok)
		}
	}
}

// Promise 14.1: an item that is in the queue is no mark, wherever it stands there: it stays there, with its key's length.
func TestMarkThatIsInTheQueue(t *testing.T) {
	for n := 1; n <= 7; n++ {
		drawing := "abcdefg"[:n]
		w := drawn(t, drawing)
		for i := range n {
			item.Set(w.a, spot(i), item.FKey, i+1)
			w.bytes[spot(i)+keyAt] = byte(i + 1)
		}
		for i := range n {
			w.goes("start "+drawing[i:i+1]+" 4 "+drawing, "none "+drawing)
		}
		w.goes("start * 0 " + drawing + "*")
	}
}

// Promise 14.1: along a queue without items no walk begins, whether it never had one, or all were taken out; the mark stays what it was.
func TestNoItems(t *testing.T) {
	w := drawn(t, "")
	w.goes("start * 3 -", "start + 3 -", "start a 3 -", "none -",
		"push a a", "start * 0 a*", "stop * a", "take a -", "start * 3 -", "start a 3 -", "none -",
		"push b b", "start a 0 ba", "step b ab", "take b a", "over a -", "start a 3 -")
	if v, e := item.Get(w.a, placeOf('+'), item.FKey); v != int(w.bytes[placeOf('+')+keyAt]) || v == 0 || e != api.OK {
		t.Errorf("FKey of one that never was a mark: %d, error %d", v, e)
	}
}

// Promise 14.1: of two things that are wrong the one is told that the document names first.
func TestWrongTwice(t *testing.T) {
	made3 := func() *world {
		// Queue 0 has items, queue 1 has none, queue 2 is the one of a walk.
		w := made(t, 3, 2, "gfg")
		w.push(0, spot(0))
		w.push(0, spot(1))
		w.push(2, spot(2))
		w.start(1, 2, spot(3), api.OK)
		return w
	}
	for _, c := range []struct {
		crawl, queue, mark int
		e                  api.Errno
		what               string
	}{
		{1, 0, -1, api.ErrState, "under way, below 0"}, {1, 0, 1024, api.ErrState, "under way, free page"}, {1, 0, 985, api.ErrState, "under way, over a page's end"},
		{1, 0, 3072, api.ErrState, "under way, no page"}, {1, 0, spot(0), api.ErrState, "under way, in that queue"}, {1, 2, spot(2), api.ErrState, "under way, in its queue"},
		{1, 2, spot(3), api.ErrState, "under way, its mark"}, {1, 1, spot(4), api.ErrState, "under way, no items"}, {1, 1, -1, api.ErrState, "under way, below 0, no items"},
		{1, 1, 1024, api.ErrState, "under way, free page, no items"}, {1, 1, math.MaxInt, api.ErrState, "under way, far away, no items"}, {1, 0, spot(4), api.ErrState, "under way alone"},
		{0, 1, -1, api.ErrRange, "below 0, no items"}, {0, 1, 1024, api.ErrRange, "free page, no items"}, {0, 1, 985, api.ErrRange, "over a page's end, no items"},
		{0, 1, 3072, api.ErrRange, "no page, no items"}, {0, 1, math.MaxInt, api.ErrRange, "far away, no items"}, {0, 1, math.MinInt, api.ErrRange, "far away, no items"},
		{0, 0, -1, api.ErrRange, "below 0 alone"}, {0, 0, 1024, api.ErrRange, "free page alone"}, {0, 0, spot(0), api.ErrTwice, "in that queue alone"},
		{0, 2, spot(3), api.ErrTwice, "another walk's mark alone"}, {0, 1, spot(4), api.ErrNone, "no items alone"}, {0, 0, spot(4), api.OK, "nothing"},
	} {
		w := made3()
		if e := w.crawls[c.crawl].Start(w.queues[c.queue], c.mark); e != c.e {
			t.Errorf("Start(%d) (%s): error %d, not %d", c.mark, c.what, e, c.e)
		}
		if c.e != api.OK {
			w.same(c.what)
		}
	}
}

// Promise 14.1: a mark that lies outside is told ahead of one that is in the queue: there it is where the queue is over another arena.
func TestOutsideAndInTheQueue(t *testing.T) {
	w := drawn(t, "ba")
	a, _ := arena.New(2)
	for _, at := range []int{placeOf('a'), placeOf('b'), placeOf('c'), -1} {
		c := New(a)
		if e := c.Start(w.queues[0], at); e != api.ErrRange || c.Walks() {
			t.Errorf("Start(%d) in an arena of free pages: error %d, Walks %t", at, e, c.Walks())
		}
		w.same("Start in another arena")
	}
}

// Promise 14.1 and rule R2: what the queue cannot take is refused, and stays what it was.
func TestQueueThatDoesNotTakeTheMark(t *testing.T) {
	w, other := made(t, 1, 1, "gg"), made(t, 1, 1, "gf")
	other.push(0, 0)
	if e := w.crawls[0].Start(other.queues[0], 1024); e == api.OK {
		t.Error("a mark outside of its queue's arena is taken")
	}
	w.same("a Start that was refused")
	other.same("a Start that was refused")
	w.push(0, 0)
	w.start(0, 0, 1024, api.OK)
}

// Promise 14.1: a Start that was refused is gone: the next one is asked of its own queue and its own mark alone.
func TestStartBehindRefusedOnes(t *testing.T) {
	w := made(t, 3, 1, "gf")
	w.push(0, spot(0))
	w.push(1, spot(1))
	for range 2 {
		w.start(0, 2, spot(5), api.ErrNone)
		w.step(0)
		w.start(0, 0, spot(0), api.ErrTwice)
		w.step(0)
		w.start(0, 0, 1024, api.ErrRange)
		w.step(0)
		w.start(0, 1, spot(6), api.OK)
		w.start(0, 0, spot(7), api.ErrState)
		if at, ok := w.step(0); at != spot(1) || !ok {
			t.Errorf("Step: %d, %t", at, ok)
		}
		if mark, ok := w.stop(0); mark != spot(6) || !ok {
			t.Errorf("Stop: %d, %t", mark, ok)
		}
	}
}

// Promise 14.1: the mark and the one ahead of it change places, item by item; where nothing is ahead of it the walk is over.
func TestStep(t *testing.T) {
	for _, c := range [][]string{
		{"a", "start * 0 a*", "step a *a", "over * a"},
		{"ba", "start * 0 ba*", "step a b*a", "step b *ba", "over * ba"},
		{"ab", "start * 0 ab*", "step b a*b", "step a *ab", "over * ab"},
		{"edcba", "start * 0 edcba*", "step a edcb*a", "step b edc*ba", "step c ed*cba", "step d e*dcba", "step e *edcba", "over * edcba"},
		{"zay", "start * 0 zay*", "step y za*y", "step a z*ay", "step z *zay", "over * zay"},
	} {
		drawn(t, c[0]).goes(c[1:]...)
	}
}

// Promise 14.1: the item at place 0, and a mark there: they are told as each other one.
func TestPlaceNought(t *testing.T) {
	w := made(t, 1, 1, "g")
	w.push(0, 0)
	w.start(0, 0, 64, api.OK)
	if at, ok := w.step(0); at != 0 || !ok {
		t.Errorf("Step to the item at 0: %d, %t", at, ok)
	}
	if at, ok := w.step(0); at != 64 || ok {
		t.Errorf("the last Step: %d, %t", at, ok)
	}
	w.take(0, 0)
	w.push(0, 64)
	for range 2 {
		w.start(0, 0, 0, api.OK)
		if !w.crawls[0].Walks() {
			t.Error("no walk with a mark at 0")
		}
		if at, ok := w.step(0); at != 64 || !ok {
			t.Errorf("Step, with a mark at 0: %d, %t", at, ok)
		}
		if at, ok := w.stop(0); at != 0 || !ok {
			t.Errorf("Stop, with a mark at 0: %d, %t", at, ok)
		}
	}
}

// Promise 14.1: Stop takes the mark out, wherever it is: at the walk's beginning, in its midst, and when nothing is ahead of it.
func TestStop(t *testing.T) {
	for n := 1; n <= 7; n++ {
		drawing := "gfedcba"[7-n:]
		for steps := range n + 1 {
			w := drawn(t, drawing)
			w.goes("start * 0 " + drawing + "*")
			for range steps {
				w.step(0)
			}
			w.looks(drawing[:n-steps] + "*" + drawing[n-steps:])
			w.goes("stop * "+drawing, "none "+drawing)
			// What was walked by half is walked whole then.
			w.goes("start * 0 " + drawing + "*")
			for i := range n {
				if at, ok := w.step(0); at != spot(i) || !ok {
					t.Errorf("Step %d behind a walk that was stopped: %d, %t", i+1, at, ok)
				}
			}
			w.goes("over * " + drawing)
		}
	}
}

// Promise 14.2: behind a walk the queue is as it was: its items, and all bytes but those that make the mark one.
func TestQueueBehindAWalk(t *testing.T) {
	for n := 1; n <= 12; n++ {
		for steps := range n + 2 {
			w := made(t, 1, 1, "gg")
			for i := range n {
				w.push(0, spot(i*7%25))
			}
			mark := spot(30)
			list, all := slices.Clone(w.lists[0]), slices.Clone(w.bytes)
			w.start(0, 0, mark, api.OK)
			for range steps {
				w.step(0)
			}
			w.stop(0)
			for i := range 4 {
				all[mark+prevAt+i], all[mark+afterAt+i] = 255, 255
			}
			all[mark+keyAt] = 0
			for page := range 2 {
				if got, e := w.a.Read(page*size, size); e != api.OK || !bytes.Equal(got, all[page*size:(page+1)*size]) {
					t.Errorf("page %d behind a walk of %d Steps along %v: error %d, or other bytes", page, steps, list, e)
				}
			}
			if got := w.queues[0].List(); !slices.Equal(got, list) || w.queues[0].Has(mark) || w.queues[0].Len() != n {
				t.Errorf("behind a walk of %d Steps along %v: %v", steps, list, got)
			}
		}
	}
}

// Promises 14.1 and 14.2: what is taken out and was not met is not met; what was met goes without a change of the walk.
func TestItemsTakenOut(t *testing.T) {
	for _, c := range [][]string{
		// The one just ahead of the mark.
		{"cba", "start * 0 cba*", "take a cb*", "step b c*b", "step c *cb", "over * cb"},
		{"cba", "start * 0 cba*", "step a cb*a", "take b c*a", "step c *ca", "over * ca"},
		{"cba", "start * 0 cba*", "step a cb*a", "step b c*ba", "take c *ba", "over * ba", "none ba"},
		// One further ahead, and the first one.
		{"cba", "start * 0 cba*", "take b ca*", "step a c*a", "step c *ca", "over * ca"},
		{"cba", "start * 0 cba*", "take c ba*", "step a b*a", "step b *ba", "over * ba"},
		// One that was met: right behind the mark, and further behind.
		{"cba", "start * 0 cba*", "step a cb*a", "take a cb*", "step b c*b", "step c *cb", "over * cb"},
		{"dcba", "start * 0 dcba*", "step a dcb*a", "step b dc*ba", "take a dc*b", "step c d*cb", "take b d*c", "step d *dc", "over * dc"},
		// All of them: the mark is left alone.
		{"a", "start * 0 a*", "take a *", "over * -", "none -", "start * 3 -"},
		{"a", "start * 0 a*", "step a *a", "take a *", "over * -"},
		{"cba", "start * 0 cba*", "take a cb*", "take b c*", "take c *", "stop * -", "none -"},
		{"cba", "start * 0 cba*", "step a cb*a", "take c b*a", "take b *a", "take a *", "start + 5 *", "over * -", "start + 3 -"},
	} {
		drawn(t, c[0]).goes(c[1:]...)
	}
}

// Promises 14.1 and 14.2: what is pushed meanwhile stands ahead of the mark, and is met; what is laid in behind the mark is not.
func TestItemsPushed(t *testing.T) {
	for _, c := range [][]string{
		{"ba", "start * 0 ba*", "push c cba*", "step a cb*a", "push d dcb*a", "step b dc*ba", "step c d*cba", "step d *dcba", "push e e*dcba", "step e *edcba", "over * edcba", "push f fedcba", "none fedcba"},
		// When nothing is ahead of the mark, and when it is alone.
		{"a", "start * 0 a*", "step a *a", "push b b*a", "step b *ba", "over * ba"},
		{"a", "start * 0 a*", "take a *", "push b b*", "push c cb*", "step b c*b", "step c *cb", "over * cb"},
		// Laid in just ahead of the mark, further ahead, right behind it, and further behind.
		{"ba", "start * 0 ba*", "lay c a bac*", "step c ba*c", "step a b*ac", "step b *bac", "over * bac"},
		{"ba", "start * 0 ba*", "lay c b bca*", "step a bc*a", "step c b*ca", "step b *bca", "over * bca"},
		{"ba", "start * 0 ba*", "lay c * ba*c", "step a b*ac", "step b *bac", "over * bac"},
		{"ba", "start * 0 ba*", "step a b*a", "lay c * b*ca", "lay d a b*cad", "step b *bcad", "lay e * *ebcad", "over * ebcad"},
		// Taken out and pushed: it moves, and is met anew; where it was not met yet it is met once, as the youngest.
		{"ba", "start * 0 ba*", "step a b*a", "take a b*", "push a ab*", "step b a*b", "step a *ab", "over * ab"},
		{"cba", "start * 0 cba*", "take a cb*", "push a acb*", "step b ac*b", "step c a*cb", "step a *acb", "over * acb"},
		// Where one was taken out another one comes.
		{"ba", "start * 0 ba*", "step a b*a", "take b *a", "push c c*a", "take a c*", "push a ac*", "step c a*c", "stop * ac"},
	} {
		drawn(t, c[0]).goes(c[1:]...)
	}
}

// Promise 14.1: a new walk behind an old one, with the same mark and with another one; what was a mark is an item as each other one then.
func TestNewWalk(t *testing.T) {
	w := drawn(t, "ba")
	for range 3 {
		w.goes("start * 0 ba*", "step a b*a", "step b *ba", "over * ba")
		w.goes("start + 0 ba+", "step a b+a", "stop + ba")
		w.goes("start * 0 ba*", "start + 5 ba*", "stop * ba")
		w.goes("start + 0 ba+", "step a b+a", "step b +ba", "over + ba")
	}
	w.goes("start * 0 ba*", "step a b*a", "stop * ba", "push * *ba", "start * 4 *ba",
		"start + 0 *ba+", "step a *b+a", "step b *+ba", "step * +*ba", "over + *ba",
		"take * ba", "take a b", "start a 0 ba", "step b ab", "stop a b", "none b")
}

// Promise 14.1: a new walk along another queue leaves the old one as it is.
func TestNewWalkAlongAnotherQueue(t *testing.T) {
	w := made(t, 2, 1, "gg")
	for i := range 6 {
		w.push(i%2, spot(i))
	}
	for round := range 8 {
		n := round / 2 % 2
		w.start(0, n, spot(30+round%3), api.OK)
		for i := range 3 {
			if at, ok := w.step(0); at != spot(2*i+n) || !ok {
				t.Errorf("Step %d along queue %d: %d, %t", i+1, n, at, ok)
			}
		}
		if round%2 == 0 {
			w.step(0)
		} else {
			w.stop(0)
		}
	}
}

// Promise 14.1: the arena and the queue that were handed in are kept, as they are when they are asked.
func TestArenaAndQueueAreKept(t *testing.T) {
	w := made(t, 1, 1, "gf")
	w.push(0, spot(0))
	w.start(0, 0, 1024, api.ErrRange)
	w.a.Grant(5)
	w.granted[1] = true
	clear(w.bytes[size:])
	w.start(0, 0, 1024, api.OK)
	w.push(0, 1064)
	w.step(0)
	w.stop(0)
	w.take(0, 1064)
	w.a.Return(1)
	w.granted[1] = false
	w.start(0, 0, 1024, api.ErrRange)
	w.start(0, 0, spot(1), api.OK)
}

// Promise 14.1: a walk does not ask whose chunk its mark was, nor what its header says: one that looks like a queue's is taken.
func TestMarkThatLooksLikeAnItem(t *testing.T) {
	w := drawn(t, "cba")
	at := placeOf('*')
	w.a.SetPlace(at+prevAt, placeOf('b'))
	w.a.SetPlace(at+afterAt, placeOf('a'))
	w.layFields(at, placeOf('b'), placeOf('a'))
	item.Set(w.a, at, item.FKey, 3)
	w.bytes[at+keyAt] = 3
	w.goes("start * 0 cba*", "step a cb*a", "step b c*ba", "step c *cba", "over * cba")
}

// Promises 14.1 and 14.2: of items' headers FPrev and FAfter alone are changed, of the mark's FKey, too: items are what they were, and so is the mark's value.
func TestItemsStay(t *testing.T) {
	table := []int{128, 1024}
	a, _ := arena.New(2)
	a.Grant(0)
	a.Grant(0)
	q, c := links.New(a), New(a)
	var items [16]item.Item
	for i := range items {
		items[i] = item.Item{Key: strings.Repeat("k", i+1), Value: strings.Repeat("v", 3*i), Flags: uint32(i) << 20, Exp: math.MaxUint32 - uint32(i), Cas: math.MaxUint64 - uint64(i)}
		if e := item.Write(a, table, []int{i * 128}, items[i]); e != api.OK {
			t.Fatalf("item %d: error %d", i, e)
		}
		for field, v := range map[int]int{item.FNext: i + 1, item.FSeg: i, item.FBits: 255 - i, item.FRefs: 16 * i} {
			item.Set(a, i*128, field, v)
		}
	}
	const mark = 7
	stay := func(after string) {
		for i, x := range items {
			for field, v := range map[int]int{item.FNext: i + 1, item.FMore: -1, item.FSeg: i, item.FBits: 255 - i, item.FRefs: 16 * i, item.FExp: int(x.Exp), item.FFlags: int(x.Flags), item.FValue: 3 * i} {
				if got, e := item.Get(a, i*128, field); got != v || e != api.OK {
					t.Fatalf("field %d of item %d behind %s: %d, error %d, not %d", field, i, after, got, e, v)
				}
			}
			if got, e := a.Read(i*128+header, 4*i+1); string(got) != x.Key+x.Value || e != api.OK {
				t.Fatalf("item %d behind %s: %q, error %d", i, after, got, e)
			}
			if got, e := item.Read(a, table, i*128); i != mark && (got != x || e != api.OK) {
				t.Fatalf("item %d behind %s: %v, error %d", i, after, got, e)
			}
		}
		if v, _ := item.Get(a, mark*128, item.FKey); v != 0 {
			t.Fatalf("FKey of the mark behind %s: %d", after, v)
		}
		if v, _ := a.Number(mark*128+16, 8); v != items[mark].Cas {
			t.Fatalf("FCas of the mark behind %s: %d", after, v)
		}
	}
	for i := range items {
		if i != mark {
			q.Push(i * 128)
		}
	}
	for range 2 {
		c.Start(q, mark*128)
		stay("Start")
		for range 5 {
			c.Step()
			stay("Step")
		}
		c.Stop()
		stay("Stop")
	}
	c.Start(q, mark*128)
	for range 16 {
		c.Step()
		stay("Step")
	}
	if c.Walks() || q.Len() != 15 {
		t.Errorf("behind the last Step: Walks %t, %d items", c.Walks(), q.Len())
	}
}

// Promise 14.1: walks along several queues over one arena have nothing in common.
func TestSeveralWalks(t *testing.T) {
	w := made(t, 3, 3, "gg")
	for i := range 15 {
		w.push(i%3, spot(i))
	}
	for n := range 3 {
		w.start(n, n, spot(30+n), api.OK)
	}
	for i := range 5 {
		for n := range 3 {
			if at, ok := w.step(n); at != spot(3*i+n) || !ok {
				t.Errorf("Step %d of walk %d: %d, %t", i+1, n, at, ok)
			}
		}
	}
	w.stop(1)
	w.start(1, 1, spot(33), api.OK)
	w.start(0, 1, spot(34), api.ErrState)
	w.step(0)
	w.step(2)
	w.start(0, 2, spot(34), api.OK)
	w.step(0)
	w.step(1)
}

// Promise 14.1: of two walks along one queue each one meets the other one's mark, as all that is ahead of its own.
func TestTwoWalksAlongOneQueue(t *testing.T) {
	w := drawn(t, "ba")
	star, plus := placeOf('*'), placeOf('+')
	w.start(0, 0, star, api.OK)
	w.start(1, 0, star, api.ErrTwice)
	w.start(1, 0, plus, api.OK)
	w.looks("ba*+")
	for i, c := range []struct {
		crawl, at int
		drawing   string
	}{{1, star, "ba+*"}, {1, placeOf('a'), "b+a*"}, {0, placeOf('a'), "b+*a"}, {0, plus, "b*+a"}, {0, placeOf('b'), "*b+a"}, {1, placeOf('b'), "*+ba"}, {1, star, "+*ba"}} {
		if at, ok := w.step(c.crawl); at != c.at || !ok {
			t.Errorf("Step %d, of walk %d: %d, %t", i+1, c.crawl, at, ok)
		}
		w.looks(c.drawing)
	}
	if at, ok := w.step(1); at != plus || ok {
		t.Errorf("the last Step of walk 1: %d, %t", at, ok)
	}
	w.looks("*ba")
	if at, ok := w.stop(0); at != star || !ok {
		t.Errorf("Stop of walk 0: %d, %t", at, ok)
	}
	w.looks("ba")
}

// Promise 14.1: walks over two arenas have the same places, and nothing in common.
func TestTwoArenas(t *testing.T) {
	one, other := drawn(t, "cba"), drawn(t, "ab")
	one.goes("start * 0 cba*", "step a cb*a")
	other.goes("start * 0 ab*", "step b a*b", "step a *ab", "push c c*ab")
	one.goes("step b c*ba", "take a c*b")
	other.goes("step c *cab", "over * cab", "start a 4 cab")
	one.same("calls in another arena")
	one.goes("stop * cb", "start a 0 cba")
	other.same("calls in another arena")
}

// Promises 14.1 and 14.2: all ways in which five calls go on, behind a Start and without one, along queues of up to three items.
func TestAllShortWays(t *testing.T) {
	for n := range 4 {
		for way := range 2 * 6 * 6 * 6 * 6 * 6 {
			w := made(t, 1, 1, "g")
			for i := range n {
				w.push(0, spot(i))
			}
			if way%2 == 0 {
				w.start(0, 0, spot(20), w.startError(0, 0, spot(20)))
			}
			rest := way / 2
			for range 5 {
				w.shortWay(rest % 6)
				rest /= 6
			}
		}
	}
}

// shortWay does the call that a number from 0 to 5 tells.
func (w *world) shortWay(which int) {
	w.t.Helper()
	switch at := spot(which - 3); {
	case which == 0:
		w.step(0)
	case which == 1:
		w.stop(0)
	case which == 2:
		w.start(0, 0, spot(21), w.startError(0, 0, spot(21)))
	case slices.Contains(w.lists[0], at):
		w.take(0, at)
	case which == 5 && slices.Contains(w.lists[0], spot(0)):
		w.lay(0, spot(0), at)
	default:
		w.push(0, at)
	}
}

// watched is a queue with a walk, one that gets the same calls without it, and what is known of the items.
type watched struct {
	*world
	plain *world
	ahead map[int]bool // those that are to be met yet
	stays []int        // those that were there at the walk's beginning, and have not moved, the last one first
	met   []int
}

// Promise 14.2: each item that is in the queue all the time is met just once, the last one first; what is taken out and was not met
// is not met; what is pushed is met; behind the walk the queue is as it was without it. All this behind calls without order.
func TestEachItemIsMetOnce(t *testing.T) {
	for seed := range 120 {
		w := &watched{world: made(t, 1, 1, "ggg"), plain: made(t, 1, 0, "ggg"), ahead: map[int]bool{}}
		n := 1 + seed%23
		for i := range n {
			w.come(spot(i*13%74), -1)
			w.stays = append(w.stays, spot(i*13%74))
		}
		mark := spot(74)
		w.start(0, 0, mark, api.OK)
		dice := noise(uint64(seed)+900, 3*(1+seed%67))
		for i := 0; i < len(dice) && w.crawls[0].Walks(); i += 3 {
			w.disturb(dice[i : i+3])
		}
		for w.walksOn() {
		}
		if len(w.ahead) > 0 {
			t.Errorf("not met: %v", w.ahead)
		}
		stayed := slices.DeleteFunc(slices.Clone(w.met), func(at int) bool { return !slices.Contains(w.stays, at) })
		if !slices.Equal(stayed, w.stays) {
			t.Errorf("of those that were there all the time, %v, were met: %v", w.stays, stayed)
		}
		w.isAsWithout(mark)
	}
}

// walksOn does one more Step of the walk, and notes what is met; whether something was.
func (w *watched) walksOn() bool {
	w.t.Helper()
	at, ok := w.step(0)
	if !ok {
		return false
	}
	if !w.ahead[at] {
		w.t.Fatalf("met: %d, of which it is not the turn: %v", at, w.ahead)
	}
	delete(w.ahead, at)
	w.met = append(w.met, at)
	return true
}

// come lays an item into both queues, behind another one or, where that is below 0, ahead of all.
func (w *watched) come(at, behind int) {
	w.t.Helper()
	if behind < 0 {
		w.push(0, at)
		w.plain.push(0, at)
		w.ahead[at] = true
		return
	}
	w.lay(0, behind, at)
	w.plain.lay(0, behind, at)
	if w.ahead[behind] {
		w.ahead[at] = true
	}
}

// goAway takes an item out of both queues.
func (w *watched) goAway(at int) {
	w.t.Helper()
	w.take(0, at)
	w.plain.take(0, at)
	delete(w.ahead, at)
	w.stays = slices.DeleteFunc(w.stays, func(other int) bool { return other == at })
}

// disturb does what three bytes without order tell: a Step, or what others do to the queue.
func (w *watched) disturb(dice []byte) {
	w.t.Helper()
	list, at := w.plain.lists[0], spot(int(dice[1])%74)
	there := slices.Contains(list, at)
	switch which := dice[0] % 8; {
	case which < 3:
		w.walksOn()
	case which == 3 && there:
		w.goAway(at)
		w.come(at, -1)
	case which == 3 || which == 4 && !there:
		w.come(at, -1)
	case which == 5 && !there && len(list) > 0:
		w.come(at, list[int(dice[2])%len(list)])
	case len(list) > 0:
		w.goAway(list[int(dice[2])%len(list)])
	}
}

// isAsWithout holds the queue behind the walk against the one that had none, to the last byte but those that make the mark one.
func (w *watched) isAsWithout(mark int) {
	w.t.Helper()
	if got, want := w.queues[0].List(), w.plain.queues[0].List(); !slices.Equal(got, want) {
		w.t.Errorf("behind the walk %v, without it %v", got, want)
	}
	for page := range 3 {
		got, _ := w.a.Read(page*size, size)
		want, _ := w.plain.a.Read(page*size, size)
		if page == mark/size {
			clear(got[mark%size : mark%size+header])
			clear(want[mark%size : mark%size+header])
		}
		if !bytes.Equal(got, want) {
			w.t.Errorf("page %d behind the walk is not as it is without it", page)
		}
	}
}

// Promises 14.1 and 14.2: calls without order, right ones and wrong ones, of several walks along several queues over one arena.
func TestManyCalls(t *testing.T) {
	for seed := range 60 {
		pages := []string{"gg", "gfg", "fggf", "g", "gggg"}[seed%5]
		w := made(t, 1+seed%3, 1+seed%4, pages)
		dice := noise(uint64(seed)+100, 4*300)
		for len(dice) > 0 {
			w.someCall(dice[:4])
			dice = dice[4:]
		}
		for c := range w.crawls {
			w.stop(c)
		}
	}
}

// someCall does the call that four bytes without order tell; an item is of one queue alone, and nobody takes a walk's mark out.
func (w *world) someCall(dice []byte) {
	w.t.Helper()
	c, n := int(dice[1])%len(w.crawls), int(dice[1]/16)%len(w.queues)
	at := spot(int(dice[2]) % (25 * len(w.granted)))
	if dice[0] >= 245 {
		at = farAways[int(dice[2])%len(farAways)]
	}
	there := false
	for other, list := range w.lists {
		if slices.Contains(list, at) {
			n, there = other, true
		}
	}
	isMark := slices.ContainsFunc(w.walks, func(k known) bool { return k.queue >= 0 && k.mark == at })
	list := w.lists[n]
	switch which := dice[0] % 16; {
	case which < 6:
		w.step(c)
	case which == 6 && dice[3] < 128:
		w.stop(c)
	case which < 10:
		w.start(c, n, at, w.startError(c, n, at))
	case there && !isMark:
		w.take(n, at)
	case !there && w.lies(at) && dice[3]%4 == 0 && len(list) > 0:
		w.lay(n, list[int(dice[3])/4%len(list)], at)
	case !there && w.lies(at):
		w.push(n, at)
	}
}

// Promises 14.1 and 14.2: in an arena of all pages that there may be, a walk along as many items as go into it.
func TestAllPages(t *testing.T) {
	a, _ := arena.New(32)
	for range 32 {
		a.Grant(1)
	}
	q, c := links.New(a), New(a)
	for i := range 799 {
		q.Push(spot(i))
	}
	mark := 32*size - header
	for at, want := range map[int]api.Errno{mark + 1: api.ErrRange, 32 * size: api.ErrRange, spot(500): api.ErrTwice} {
		if e := c.Start(q, at); e != want {
			t.Errorf("Start(%d): error %d, not %d", at, e, want)
		}
	}
	list := q.List()
	for range 2 {
		if e := c.Start(q, mark); e != api.OK {
			t.Fatalf("Start(%d): error %d", mark, e)
		}
		for i := range 799 {
			if at, ok := c.Step(); at != spot(i) || !ok {
				t.Fatalf("Step %d: %d, %t", i+1, at, ok)
			}
		}
		if at, ok := c.Step(); at != mark || ok || c.Walks() {
			t.Errorf("the last Step: %d, %t, Walks %t", at, ok, c.Walks())
		}
		if got := q.List(); !slices.Equal(got, list) {
			t.Errorf("behind the walk: %v", got)
		}
	}
}

// Rule R1: all calls end, and none panics, also where somebody else took the mark out, changed headers of the queue, or gave their page back.
func TestCallsEnd(t *testing.T) {
	all := func(w *world) {
		for range 3 {
			for _, c := range w.crawls {
				for range 9 {
					c.Step()
					c.Walks()
				}
				c.Stop()
				for _, at := range append([]int{0, 4, 36, 40, 80, 985, 1024, placeOf('*')}, farAways...) {
					c.Start(w.queues[0], at)
					c.Step()
				}
			}
		}
	}
	under := func(steps int) *world {
		w := drawn(t, "cba")
		w.start(0, 0, placeOf('*'), api.OK)
		for range steps {
			w.step(0)
		}
		return w
	}
	for steps := range 4 {
		for _, field := range []int{item.FPrev, item.FAfter, item.FKey} {
			for _, v := range []int{-1, 0, 1, 40, 80, 120, 255, 984, 1023, 2048, 5000, math.MaxInt32} {
				for _, name := range []byte("abc*") {
					w := under(steps)
					item.Set(w.a, placeOf(name), field, v)
					all(w)
				}
			}
		}
		w := under(steps)
		w.queues[0].Remove(placeOf('*'))
		all(w)
		for page := range 2 {
			w = under(steps)
			w.a.Return(page)
			all(w)
			w.a.Return(1 - page)
			all(w)
			w.a.Grant(0)
			all(w)
		}
	}
}
