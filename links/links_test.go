package links

import (
	"bytes"
	"math"
	"slices"
	"strings"
	"testing"

	"tallboy/api"
	"tallboy/arena"
	"tallboy/item"
)

// size is how many bytes a page has.
const size = 1024

// header is how many bytes an item's header has.
const header = 40

// far is a whole number beyond all that an arena has, whose lowest 32 bits are 0.
const far = 1 << 32

// farAways are addresses in no arena; some have a right one as their lowest bits.
var farAways = []int{-1, -2, -3, -39, -40, -41, -64, -1020, -1023, -1024, -1025, -2048, math.MinInt32, -far, -far + 64, math.MinInt, math.MinInt + 1, math.MinInt + 64,
	32 * size, 32*size + 64, 33 * size, 1 << 16, math.MaxInt32, 1 << 31, far - 1, far, far + 64, far + 1024, 1 << 62, math.MaxInt, math.MaxInt - 1, math.MaxInt - 3,
	math.MaxInt - 11, math.MaxInt - 38, math.MaxInt - 39, math.MaxInt - 40, math.MaxInt - 63, math.MaxInt - 1023, math.MaxInt - 1024}

// both are queues over one arena, and what they must be: each queue's items, the youngest first, and all bytes.
type both struct {
	t       *testing.T
	a       *arena.Arena
	granted []bool
	bytes   []byte
	queues  []*Queue
	lists   [][]int
}

// made are n queues without items over an arena with a page for each sign, g: granted, with bytes without order, f: free.
func made(t *testing.T, n int, pages string) *both {
	t.Helper()
	a, e := arena.New(len(pages))
	if e != api.OK {
		t.Fatalf("an arena of %d pages: error %d", len(pages), e)
	}
	b := &both{t: t, a: a, granted: make([]bool, len(pages)), bytes: noise(uint64(len(pages)), len(pages)*size), lists: make([][]int, n)}
	for page := range pages {
		a.Grant(page % 8)
		a.Write(page*size, b.bytes[page*size:(page+1)*size])
	}
	for page, sign := range pages {
		b.granted[page] = sign == 'g'
		if sign == 'f' {
			a.Return(page)
		}
	}
	for range n {
		b.queues = append(b.queues, New(a))
	}
	b.same("New")
	return b
}

// of is one queue with such items, the youngest first, over an arena of such pages.
func of(t *testing.T, pages string, list ...int) *both {
	t.Helper()
	b := made(t, 1, pages)
	b.fill(0, list...)
	return b
}

// fill pushes items so that they stand ahead of all in this order.
func (b *both) fill(n int, list ...int) {
	b.t.Helper()
	for _, at := range slices.Backward(list) {
		b.push(n, at, api.OK)
	}
}

// noise is n bytes without order, others for each seed.
func noise(seed uint64, n int) []byte {
	v := 88172645463325252 + seed*0x9E3779B97F4A7C15
	b := make([]byte, n)
	for i := range b {
		v ^= v << 13
		v ^= v >> 7
		v ^= v << 17
		b[i] = byte(v >> 24)
	}
	return b
}

// mayBeQueued tells whether each byte of a header lies within a granted page, and all in one.
func (b *both) mayBeQueued(at int) bool {
	if at < 0 || at >= len(b.bytes) {
		return false
	}
	for i := range header {
		if at+i >= len(b.bytes) || !b.granted[at/size] || (at+i)/size != at/size {
			return false
		}
	}
	return true
}

// pushError is what Push must answer.
func (b *both) pushError(n, at int) api.Errno {
	switch {
	case !b.mayBeQueued(at):
		return api.ErrRange
	case slices.Contains(b.lists[n], at):
		return api.ErrTwice
	}
	return api.OK
}

// insertError is what Insert must answer.
func (b *both) insertError(n, behind, at int) api.Errno {
	if !slices.Contains(b.lists[n], behind) {
		return api.ErrNone
	}
	return b.pushError(n, at)
}

// removeError is what Remove must answer.
func (b *both) removeError(n, at int) api.Errno {
	if !slices.Contains(b.lists[n], at) {
		return api.ErrNone
	}
	return api.OK
}

// push does a Push, whose error the test names, and holds all against what it must be.
func (b *both) push(n, at int, e api.Errno) {
	b.t.Helper()
	if want := b.pushError(n, at); want != e {
		b.t.Fatalf("the test says error %d of Push(%d), the document %d", e, at, want)
	}
	if got := b.queues[n].Push(at); got != e {
		b.t.Fatalf("Push(%d) onto %v: error %d, not %d", at, b.lists[n], got, e)
	}
	if e == api.OK {
		b.now(n, slices.Insert(slices.Clone(b.lists[n]), 0, at))
	}
	b.same("Push")
}

// insert does an Insert, whose error the test names, and holds all against what it must be.
func (b *both) insert(n, behind, at int, e api.Errno) {
	b.t.Helper()
	if want := b.insertError(n, behind, at); want != e {
		b.t.Fatalf("the test says error %d of Insert(%d, %d), the document %d", e, behind, at, want)
	}
	if got := b.queues[n].Insert(behind, at); got != e {
		b.t.Fatalf("Insert(%d, %d) into %v: error %d, not %d", behind, at, b.lists[n], got, e)
	}
	if e == api.OK {
		b.now(n, slices.Insert(slices.Clone(b.lists[n]), slices.Index(b.lists[n], behind)+1, at))
	}
	b.same("Insert")
}

// remove does a Remove, whose error the test names, and holds all against what it must be.
func (b *both) remove(n, at int, e api.Errno) {
	b.t.Helper()
	if want := b.removeError(n, at); want != e {
		b.t.Fatalf("the test says error %d of Remove(%d), the document %d", e, at, want)
	}
	if got := b.queues[n].Remove(at); got != e {
		b.t.Fatalf("Remove(%d) from %v: error %d, not %d", at, b.lists[n], got, e)
	}
	if e == api.OK {
		b.layFields(at, -1, -1)
		b.now(n, slices.DeleteFunc(slices.Clone(b.lists[n]), func(other int) bool { return other == at }))
	}
	b.same("Remove")
}

// now lays what a queue's items must be, and what their fields must say.
func (b *both) now(n int, list []int) {
	b.lists[n] = list
	for i, at := range list {
		ahead, behind := -1, -1
		if i > 0 {
			ahead = list[i-1]
		}
		if i+1 < len(list) {
			behind = list[i+1]
		}
		b.layFields(at, ahead, behind)
	}
}

// layFields lays into the bytes that must be there what an item's FPrev and FAfter must say, the lowest byte first.
func (b *both) layFields(at, ahead, behind int) {
	for i := range 4 {
		b.bytes[at+4+i] = byte(ahead >> (8 * i))
		b.bytes[at+8+i] = byte(behind >> (8 * i))
	}
}

// same holds the arena's bytes, and all that the queues tell, against what they must be.
func (b *both) same(after string) {
	b.t.Helper()
	for page, granted := range b.granted {
		got, e := b.a.Read(page*size, size)
		if (e == api.OK) != granted || granted && !bytes.Equal(got, b.bytes[page*size:(page+1)*size]) {
			b.t.Fatalf("page %d behind %s: error %d, or other bytes", page, after, e)
		}
	}
	for n, list := range b.lists {
		b.told(n, after)
		for i, at := range list {
			b.place(n, at)
			b.place(n, at+1)
			b.place(n, at-4)
			if i > 5 && i < len(list)-5 && i%64 != 0 {
				continue
			}
			for other := range b.lists {
				b.place(other, at)
			}
		}
		for _, at := range []int{-1, -4, 0, 4, 64, 984, size, len(b.bytes) - header, len(b.bytes), far, math.MinInt, math.MaxInt} {
			b.place(n, at)
		}
	}
}

// told holds what a queue tells of itself against what it must be.
func (b *both) told(n int, after string) {
	b.t.Helper()
	q, list := b.queues[n], b.lists[n]
	last, there := 0, len(list) > 0
	if there {
		last = list[len(list)-1]
	}
	if at, ok := q.Tail(); at != last || ok != there {
		b.t.Fatalf("Tail behind %s, of %v: %d, %t", after, list, at, ok)
	}
	if got := q.Len(); got != len(list) {
		b.t.Fatalf("Len behind %s, of %v: %d", after, list, got)
	}
	if got := q.List(); !slices.Equal(got, list) {
		b.t.Fatalf("List behind %s: %v, not %v", after, got, list)
	}
}

// place holds what a queue tells of an address against what it must be.
func (b *both) place(n, at int) {
	b.t.Helper()
	i := slices.Index(b.lists[n], at)
	if got := b.queues[n].Has(at); got != (i >= 0) {
		b.t.Fatalf("Has(%d) of %v: %t", at, b.lists[n], got)
	}
	ahead := 0
	if i > 0 {
		ahead = b.lists[n][i-1]
	}
	if got, ok := b.queues[n].Before(at); got != ahead || ok != (i > 0) {
		b.t.Fatalf("Before(%d) of %v: %d, %t, not %d", at, b.lists[n], got, ok, ahead)
	}
}

// everyPlace asks of each address of the arena, of those near its ends, and of those far away.
func (b *both) everyPlace() {
	b.t.Helper()
	for n := range b.lists {
		for at := -size - 5; at <= len(b.bytes)+size+5; at++ {
			b.place(n, at)
		}
		for _, at := range farAways {
			b.place(n, at)
		}
	}
}

// is tells what a queue's items are to be, so that a test's own words stand beside what is reckoned.
func (b *both) is(want ...int) {
	b.t.Helper()
	if got := b.queues[0].List(); !slices.Equal(got, want) || !slices.Equal(b.lists[0], want) {
		b.t.Fatalf("the queue is %v, not %v", got, want)
	}
}

// spots are n places of headers, as many as that in a page as go into it, without order.
func spots(n int) []int {
	var list []int
	for page := 0; len(list) < n; page++ {
		for i := range size / header {
			list = append(list, page*size+i*header)
		}
	}
	for i, v := range noise(uint64(n), len(list)) {
		j := int(v) % (i + 1)
		list[i], list[j] = list[j], list[i]
	}
	return list[:n]
}

// pagesFor is an arena's pages, all granted, with room for so many headers.
func pagesFor(n int) string { return strings.Repeat("g", max(1, (n+24)/25)) }

// orders are all lists of some of the places, in each order, each place at most once.
func orders(places []int) [][]int {
	all := [][]int{nil}
	for from := 0; from < len(all); from++ {
		for _, at := range places {
			if !slices.Contains(all[from], at) {
				all = append(all, append(slices.Clone(all[from]), at))
			}
		}
	}
	return all
}

// Promises 9.1 and 9.2: the chapter's example.
func TestExample(t *testing.T) {
	a, _ := arena.New(1)
	a.Grant(0)
	q := New(a)
	for _, at := range []int{0, 64, 128} {
		if e := q.Push(at); e != api.OK {
			t.Fatalf("Push(%d): error %d", at, e)
		}
	}
	if list := q.List(); !slices.Equal(list, []int{128, 64, 0}) {
		t.Errorf("behind three Pushes: %v", list)
	}
	if at, ok := q.Tail(); at != 0 || !ok {
		t.Errorf("Tail: %d, %t", at, ok)
	}
	if e := q.Remove(64); e != api.OK {
		t.Errorf("Remove(64): error %d", e)
	}
	if list := q.List(); !slices.Equal(list, []int{128, 0}) {
		t.Errorf("behind Remove(64): %v", list)
	}
	if e := q.Insert(128, 192); e != api.OK {
		t.Errorf("Insert(128, 192): error %d", e)
	}
	if list := q.List(); !slices.Equal(list, []int{128, 192, 0}) {
		t.Errorf("behind Insert(128, 192): %v", list)
	}
}

// Promises 9.1 and 9.2: an empty queue has nothing, wherever it is asked, also where a header's bytes look as if it were queued.
func TestEmptyQueue(t *testing.T) {
	for _, pages := range []string{"g", "f", "gf", "fg", "ggg", "fff"} {
		b := made(t, 1, pages)
		b.everyPlace()
		for _, at := range append([]int{0, 4, 64, 984, 985, 1023, 1024, 2048}, farAways...) {
			b.remove(0, at, api.ErrNone)
			b.insert(0, at, 64, api.ErrNone)
			b.insert(0, at, at, api.ErrNone)
			b.insert(0, 64, at, api.ErrNone)
		}
		b.is()
	}
	b := made(t, 1, "g")
	if _, ok := b.queues[0].Tail(); ok {
		t.Errorf("an empty queue has a last item")
	}
	// As a queue of one item leaves it.
	b.fill(0, 64)
	b.queues = append(b.queues, New(b.a))
	b.lists = append(b.lists, nil)
	b.same("New")
	b.remove(1, 64, api.ErrNone)
	b.insert(1, 64, 128, api.ErrNone)
}

// Promises 9.1 and 9.2: a queue of one item: it is the first one and the last one, with nothing ahead and nothing behind.
func TestOneItem(t *testing.T) {
	for _, at := range []int{0, 1, 40, 64, 511, 984, 1024, 1025, 2008, 3072, 4056} {
		b := made(t, 1, "ggfg")
		b.push(0, at, api.OK)
		b.is(at)
		b.everyPlace()
		for _, field := range []int{item.FPrev, item.FAfter} {
			if v, e := item.Get(b.a, at, field); v != -1 || e != api.OK {
				t.Errorf("field %d of the only one, at %d: %d, error %d", field, at, v, e)
			}
		}
		b.push(0, at, api.ErrTwice)
		b.insert(0, at, at, api.ErrTwice)
		b.remove(0, at, api.OK)
		b.is()
		b.everyPlace()
		b.remove(0, at, api.ErrNone)
		b.insert(0, at, 500, api.ErrNone)
		b.push(0, at, api.OK)
		b.is(at)
	}
}

// Promises 9.1 and 9.2: a queue of two items, of which either goes and comes anew.
func TestTwoItems(t *testing.T) {
	b := of(t, "g", 64, 0)
	b.everyPlace()
	b.remove(0, 0, api.OK)
	b.is(64)
	b.push(0, 0, api.OK)
	b.is(0, 64)
	b.remove(0, 0, api.OK)
	b.is(64)
	b.insert(0, 64, 0, api.OK)
	b.is(64, 0)
	b.remove(0, 64, api.OK)
	b.is(0)
	b.insert(0, 0, 64, api.OK)
	b.is(0, 64)
	for _, at := range []int{0, 64} {
		b.push(0, at, api.ErrTwice)
		b.insert(0, 0, at, api.ErrTwice)
		b.insert(0, 64, at, api.ErrTwice)
	}
	b.remove(0, 64, api.OK)
	b.remove(0, 0, api.OK)
	b.is()
}

// Promise 9.1: what is pushed stands ahead of all, whatever its place is.
func TestPushIsAheadOfAll(t *testing.T) {
	for _, list := range [][]int{{0, 64, 128, 192}, {192, 128, 64, 0}, {64, 192, 0, 128}, {1984, 0, 960, 1024}, {0, 984, 1024, 2008}} {
		b := made(t, 1, "gg")
		for i, at := range list {
			b.push(0, at, api.OK)
			if first := b.queues[0].List()[0]; first != at {
				t.Errorf("the first one behind Push(%d): %d", at, first)
			}
			if last, ok := b.queues[0].Tail(); last != list[0] || !ok {
				t.Errorf("the last one behind %d Pushes: %d, %t", i+1, last, ok)
			}
		}
		slices.Reverse(list)
		b.is(list...)
	}
}

// Promise 9.1: each item of a queue is pushed twice; it stays where it is.
func TestPushTwice(t *testing.T) {
	for n := 1; n <= 6; n++ {
		list := spots(n)
		b := of(t, pagesFor(n), list...)
		for _, at := range list {
			b.push(0, at, api.ErrTwice)
			b.push(0, at, api.ErrTwice)
		}
		b.is(list...)
	}
}

// Promise 9.1: each address of an arena, of those near its ends and far away: Push and Insert take it if its header lies within a granted page, and no other one.
func TestWhereItemsMayBe(t *testing.T) {
	for _, pages := range []string{"g", "f", "gf", "fg", "gg", "gfg", "fgf", "ggg"} {
		b := made(t, 1, pages)
		addresses := slices.Clone(farAways)
		for at := -size - 50; at <= len(b.bytes)+size+50; at++ {
			addresses = append(addresses, at)
		}
		for _, at := range addresses {
			e := b.pushError(0, at)
			if (at+60)%size > 120 && at >= 0 && at%97 != 0 {
				// In the midst of pages without a look at all bytes: there are many of them.
				if got := b.queues[0].Push(at); got != e {
					t.Fatalf("Push(%d) in %s: error %d, not %d", at, pages, got, e)
				}
				if e == api.OK && b.queues[0].Remove(at) == api.OK {
					b.layFields(at, -1, -1)
				}
				continue
			}
			b.push(0, at, e)
			if e == api.OK {
				b.remove(0, at, api.OK)
			}
		}
	}
}

// Promise 9.1: the same of Insert, behind an item that is in the queue.
func TestWhereItemsMayBeInserted(t *testing.T) {
	for _, c := range []struct {
		pages  string
		behind int
	}{{"g", 512}, {"gf", 512}, {"fg", 1536}, {"gfg", 2560}, {"ggg", 1500}} {
		b := of(t, c.pages, c.behind)
		for at := -60; at <= len(b.bytes)+60; at++ {
			if (at+60)%size > 120 || at > c.behind-header && at < c.behind+header {
				continue
			}
			e := b.insertError(0, c.behind, at)
			b.insert(0, c.behind, at, e)
			if e == api.OK {
				b.remove(0, at, api.OK)
			}
		}
		for _, at := range farAways {
			b.insert(0, c.behind, at, api.ErrRange)
			b.insert(0, at, c.behind, api.ErrNone)
		}
		b.is(c.behind)
	}
}

// Promise 9.1: a header that ends with its page is taken; one of which the last byte alone lies outside is not, though the next page is granted.
func TestHeadersAtPagesEnds(t *testing.T) {
	for _, c := range []struct {
		pages string
		at    int
		e     api.Errno
	}{
		{"g", 984, api.OK}, {"g", 985, api.ErrRange}, {"g", 1023, api.ErrRange}, {"g", 1024, api.ErrRange}, {"g", 0, api.OK}, {"g", -1, api.ErrRange}, {"g", -39, api.ErrRange},
		{"g", -40, api.ErrRange}, {"gg", 984, api.OK}, {"gg", 985, api.ErrRange}, {"gg", 1023, api.ErrRange}, {"gg", 1024, api.OK}, {"gg", 2008, api.OK}, {"gg", 2009, api.ErrRange},
		{"fg", 0, api.ErrRange}, {"fg", 984, api.ErrRange}, {"fg", 985, api.ErrRange}, {"fg", 1023, api.ErrRange}, {"fg", 1024, api.OK}, {"gf", 984, api.OK}, {"gf", 985, api.ErrRange},
		{"gf", 1024, api.ErrRange}, {"gf", 2008, api.ErrRange}, {"gfg", 1500, api.ErrRange}, {"gfg", 2048, api.OK}, {"gfg", 2047, api.ErrRange}, {"gfg", 3032, api.OK}, {"gfg", 3033, api.ErrRange},
	} {
		b := made(t, 1, c.pages)
		b.push(0, c.at, c.e)
		b = of(t, c.pages, strings.Index(c.pages, "g")*size+300)
		b.insert(0, b.lists[0][0], c.at, c.e)
	}
}

// Promise 9.1: a page that is given back while no item of it is queued: nothing may be queued in it, till it is granted anew.
func TestPageThatIsGivenBack(t *testing.T) {
	b := of(t, "gg", 64, 1024)
	b.remove(0, 1024, api.OK)
	b.a.Return(1)
	b.granted[1] = false
	b.push(0, 1024, api.ErrRange)
	b.insert(0, 64, 1024, api.ErrRange)
	b.insert(0, 1024, 1088, api.ErrNone)
	b.remove(0, 1024, api.ErrNone)
	b.a.Grant(3)
	b.granted[1] = true
	clear(b.bytes[size:])
	b.insert(0, 64, 1024, api.OK)
	b.push(0, 1088, api.OK)
	b.is(1088, 64, 1024)
}

// Promise 9.1: a page may be granted to any class, and later than the queue was made.
func TestPageOfAnyClass(t *testing.T) {
	for class := range 8 {
		a, _ := arena.New(2)
		a.Grant(class)
		q := New(a)
		if e := q.Push(0); e != api.OK {
			t.Errorf("Push into a page of class %d: error %d", class, e)
		}
		if e := q.Push(1024); e != api.ErrRange {
			t.Errorf("Push into a free page: error %d", e)
		}
		a.Grant(7 - class)
		if e := q.Insert(0, 1024); e != api.OK {
			t.Errorf("Insert into a page that was granted later: error %d", e)
		}
		if list := q.List(); !slices.Equal(list, []int{0, 1024}) {
			t.Errorf("the queue: %v", list)
		}
	}
}

// Promise 9.1: the first one, the last one, one in the midst and the only one are removed, once more, and pushed anew.
func TestRemove(t *testing.T) {
	for n := 1; n <= 7; n++ {
		for i := range n {
			list := spots(n)
			b := of(t, pagesFor(n), list...)
			at := list[i]
			rest := slices.Delete(slices.Clone(list), i, i+1)
			b.remove(0, at, api.OK)
			b.is(rest...)
			b.everyPlace()
			b.remove(0, at, api.ErrNone)
			b.insert(0, at, at, api.ErrNone)
			b.push(0, at, api.OK)
			b.is(append([]int{at}, rest...)...)
			b.remove(0, at, api.OK)
			for _, other := range rest {
				b.remove(0, other, api.OK)
			}
			b.is()
		}
	}
}

// Promise 9.1: what is removed has neither FPrev nor FAfter, wherever it stood.
func TestRemovedHasNoNeighbours(t *testing.T) {
	for i, at := range []int{192, 128, 64, 0} {
		b := of(t, "g", 192, 128, 64, 0)
		b.remove(0, at, api.OK)
		for _, field := range []int{item.FPrev, item.FAfter} {
			if v, e := item.Get(b.a, at, field); v != -1 || e != api.OK {
				t.Errorf("field %d of item %d of four, removed: %d, error %d", field, i, v, e)
			}
		}
	}
}

// Promise 9.1: items are removed from the first one on, from the last one on, and from the midst, till nothing is left.
func TestRemoveAll(t *testing.T) {
	for _, which := range []func(n int) int{
		func(int) int { return 0 }, func(n int) int { return n - 1 }, func(n int) int { return n / 2 }, func(n int) int { return n % 3 * (n - 1) / 2 },
	} {
		list := spots(30)
		b := of(t, pagesFor(30), list...)
		for len(list) > 0 {
			i := which(len(list))
			b.remove(0, list[i], api.OK)
			list = slices.Delete(list, i, i+1)
			b.is(list...)
		}
	}
}

// Promise 9.1: what Remove refuses: what is not in the queue, though a header is there that looks as if it were, and though it was.
func TestRemoveRefuses(t *testing.T) {
	b := of(t, "gfg", 2048, 128, 64)
	b.remove(0, 128, api.OK)
	// A header that somebody made look like one between two items.
	b.layFields(256, 2048, 64)
	b.a.SetPlace(260, 2048)
	b.a.SetPlace(264, 64)
	for _, at := range append([]int{0, 1, 63, 65, 68, 72, 128, 256, 985, 1023, 1024, 1088, 2047, 2049, 2052, 3033, 3072}, farAways...) {
		b.remove(0, at, api.ErrNone)
	}
	b.is(2048, 64)
}

// Promise 9.1: what is inserted stands right behind the first one, the last one, one in the midst and the only one.
func TestInsert(t *testing.T) {
	for n := 1; n <= 7; n++ {
		for i := range n {
			list := spots(n + 2)
			list, at, next := list[:n:n], list[n], list[n+1]
			b := of(t, pagesFor(n+2), list...)
			b.insert(0, list[i], at, api.OK)
			b.is(slices.Insert(slices.Clone(list), i+1, at)...)
			b.everyPlace()
			if i == n-1 {
				if last, ok := b.queues[0].Tail(); last != at || !ok {
					t.Errorf("Tail behind Insert behind the last one: %d, %t", last, ok)
				}
			}
			b.insert(0, at, next, api.OK)
			b.is(slices.Insert(slices.Clone(list), i+1, at, next)...)
			b.remove(0, at, api.OK)
			b.insert(0, next, at, api.OK)
			b.is(slices.Insert(slices.Clone(list), i+1, next, at)...)
		}
	}
}

// Promise 9.1: an item that is in the queue already is refused behind itself, behind its neighbours and behind all others, and stays where it is.
func TestInsertOfWhatIsThere(t *testing.T) {
	for n := 1; n <= 6; n++ {
		list := spots(n)
		b := of(t, pagesFor(n), list...)
		for _, behind := range list {
			for _, at := range list {
				b.insert(0, behind, at, api.ErrTwice)
			}
		}
		b.is(list...)
	}
}

// Promise 9.1: behind what is not in the queue nothing is inserted: a header that may be queued, one that was, one outside.
func TestInsertBehindWhatIsNotThere(t *testing.T) {
	b := of(t, "gfg", 192, 128, 64)
	b.remove(0, 128, api.OK)
	for _, behind := range append([]int{0, 1, 60, 65, 68, 128, 191, 193, 985, 1024, 2048, 3033, 3072}, farAways...) {
		for _, at := range []int{256, 2048, behind} {
			b.insert(0, behind, at, api.ErrNone)
		}
	}
	b.is(192, 64)
}

// Promise 9.1: an item that was removed is inserted at another place, and pushed anew.
func TestMoveWithin(t *testing.T) {
	for i := range 5 {
		for j := range 4 {
			list := []int{0, 64, 128, 192, 256}
			b := of(t, "g", list...)
			at := list[i]
			rest := slices.Delete(list, i, i+1)
			b.remove(0, at, api.OK)
			b.insert(0, rest[j], at, api.OK)
			b.is(slices.Insert(slices.Clone(rest), j+1, at)...)
			b.remove(0, at, api.OK)
			b.push(0, at, api.OK)
			b.is(append([]int{at}, rest...)...)
		}
	}
}

// Promise 9.1: of two things that are wrong the one is told that the document names first.
func TestWrongTwice(t *testing.T) {
	b := of(t, "gfg", 128, 64)
	for _, c := range []struct {
		behind, at int
		e          api.Errno
		what       string
	}{
		{0, 64, api.ErrNone, "behind none, there already"}, {0, 128, api.ErrNone, "behind none, there already"}, {0, 0, api.ErrNone, "behind itself, not there"},
		{0, -1, api.ErrNone, "behind none, below 0"}, {0, 1024, api.ErrNone, "behind none, free page"}, {0, 985, api.ErrNone, "behind none, over a page's end"},
		{0, 3072, api.ErrNone, "behind none, no page"}, {-1, 64, api.ErrNone, "behind outside, there already"}, {-1, -1, api.ErrNone, "behind itself, outside"},
		{1024, 1088, api.ErrNone, "behind outside, free page"}, {985, 985, api.ErrNone, "behind itself, over a page's end"}, {math.MaxInt, math.MinInt, api.ErrNone, "both far away"},
		{1024, 128, api.ErrNone, "behind a free page, there already"}, {math.MinInt, 64, api.ErrNone, "behind far away, there already"},
		{64, -1, api.ErrRange, "outside alone"}, {128, 1024, api.ErrRange, "free page alone"}, {64, 985, api.ErrRange, "over a page's end alone"}, {128, math.MaxInt, api.ErrRange, "far away alone"},
		{64, 64, api.ErrTwice, "behind itself"}, {128, 128, api.ErrTwice, "behind itself"}, {64, 128, api.ErrTwice, "there already"}, {128, 64, api.ErrTwice, "right there already"},
	} {
		if e := b.queues[0].Insert(c.behind, c.at); e != c.e {
			t.Errorf("Insert(%d, %d) (%s): error %d, not %d", c.behind, c.at, c.what, e, c.e)
		}
		b.same(c.what)
	}
	b.is(128, 64)
}

// Promises 9.1 and 9.2: each queue of some of four items, in each order, and each call that there is of them and of two places outside.
func TestAllSmallQueues(t *testing.T) {
	places := []int{0, 984, 1024, 40}
	called := append([]int{-1, 2048}, places...)
	for _, list := range orders(places) {
		for _, at := range called {
			b := of(t, "gg", list...)
			b.remove(0, at, b.removeError(0, at))
			b = of(t, "gg", list...)
			b.push(0, at, b.pushError(0, at))
			for _, behind := range called {
				b = of(t, "gg", list...)
				b.insert(0, behind, at, b.insertError(0, behind, at))
			}
		}
	}
}

// Promise 9.1: FPrev and FAfter alone are changed, of those alone whose neighbours change: the items are what they were.
func TestItemsStay(t *testing.T) {
	table := []int{128, 1024}
	a, _ := arena.New(2)
	a.Grant(0)
	a.Grant(0)
	q := New(a)
	items := map[int]item.Item{}
	for i := range 16 {
		at := i * 128
		x := item.Item{Key: strings.Repeat("k", i+1), Value: strings.Repeat("v", 3*i), Flags: uint32(i) << 20, Exp: math.MaxUint32 - uint32(i), Cas: math.MaxUint64 - uint64(i)}
		items[at] = x
		if e := item.Write(a, table, []int{at}, x); e != api.OK {
			t.Fatalf("item %d: error %d", i, e)
		}
		for field, v := range map[int]int{item.FNext: at + 1, item.FSeg: i, item.FBits: 255 - i, item.FRefs: 16 * i} {
			item.Set(a, at, field, v)
		}
	}
	stay := func(after string) {
		for at, x := range items {
			got, e := item.Read(a, table, at)
			if got != x || e != api.OK {
				t.Fatalf("the item at %d behind %s: %v, error %d", at, after, got, e)
			}
			for field, v := range map[int]int{item.FNext: at + 1, item.FMore: -1, item.FSeg: at / 128, item.FBits: 255 - at/128, item.FRefs: at / 8} {
				if got, e := item.Get(a, at, field); got != v || e != api.OK {
					t.Fatalf("field %d of the item at %d behind %s: %d, error %d, not %d", field, at, after, got, e, v)
				}
			}
		}
	}
	for i := range 8 {
		q.Push(i * 256)
		stay("Push")
	}
	for i := range 8 {
		q.Insert(i*256, i*256+128)
		stay("Insert")
	}
	for i := range 16 {
		q.Remove(i * 5 % 16 * 128)
		stay("Remove")
	}
	if q.Len() != 0 {
		t.Errorf("items that are left: %v", q.List())
	}
}

// Promises 9.1 and 9.2: headers side by side, one right behind the other one, over the ends of pages.
func TestSideBySide(t *testing.T) {
	b := made(t, 1, "ggg")
	var list []int
	for _, at := range []int{0, 40, 80, 944, 984, 1024, 1064, 1104, 1968, 2008, 2048, 2088, 3032} {
		b.push(0, at, api.OK)
		list = append(list, at)
	}
	slices.Reverse(list)
	b.is(list...)
	b.everyPlace()
	for _, at := range []int{984, 1024, 40, 2008, 2088} {
		b.remove(0, at, api.OK)
	}
	b.is(3032, 2048, 1968, 1104, 1064, 944, 80, 0)
	b.insert(0, 1064, 1024, api.OK)
	b.insert(0, 1024, 984, api.OK)
	b.insert(0, 0, 40, api.OK)
	b.is(3032, 2048, 1968, 1104, 1064, 1024, 984, 944, 80, 0, 40)
	// Not in the midst of chunks either: from an odd address on.
	b = made(t, 1, "gg")
	for at := 3; at+header <= size; at += header {
		b.push(0, at, api.OK)
	}
	for at := 3; at+header <= size; at += 2 * header {
		b.remove(0, at, api.OK)
	}
	b.everyPlace()
}

// Promises 9.1 and 9.2: two queues over one arena have nothing in common; what one let go of the other one takes.
func TestTwoQueues(t *testing.T) {
	b := made(t, 2, "gg")
	for i := range 8 {
		b.push(i%2, i*64, api.OK)
	}
	for i := range 8 {
		b.remove(1-i%2, i*64, api.ErrNone)
		b.insert(1-i%2, i*64, 1024, api.ErrNone)
		b.insert(1-i%2, i*64, i*64, api.ErrNone)
	}
	b.everyPlace()
	b.insert(0, 128, 1024, api.OK)
	b.insert(1, 64, 1088, api.OK)
	for i := range 8 {
		b.remove(i%2, i*64, api.OK)
		b.push(1-i%2, i*64, api.OK)
		b.remove(i%2, i*64, api.ErrNone)
	}
	b.everyPlace()
	b.remove(0, 1024, api.OK)
	b.insert(1, 1088, 1024, api.OK)
	if got := b.queues[0].List(); !slices.Equal(got, []int{448, 320, 192, 64}) {
		t.Errorf("the one queue: %v", got)
	}
	if got := b.queues[1].List(); !slices.Equal(got, []int{384, 256, 128, 0, 1088, 1024}) {
		t.Errorf("the other queue: %v", got)
	}
}

// Promise 9.1: queues over two arenas have the same places, and nothing in common.
func TestTwoArenas(t *testing.T) {
	one, other := made(t, 1, "gg"), made(t, 1, "gf")
	one.fill(0, 0, 64, 128, 1024)
	other.same("Pushes in another arena")
	other.fill(0, 128, 0)
	other.push(0, 1024, api.ErrRange)
	one.same("Pushes in another arena")
	one.remove(0, 128, api.OK)
	other.same("Remove in another arena")
	other.is(128, 0)
	one.is(0, 64, 1024)
}

// Promise 9.1: three queues, as the layer above has them, go from one to another with an item for each call.
func TestItemsGoRound(t *testing.T) {
	b := made(t, 3, "gg")
	for _, at := range spots(20) {
		b.push(0, at, api.OK)
	}
	for round := range 60 {
		from, to := round%3, (round+1)%3
		at, ok := b.queues[from].Tail()
		if !ok {
			continue
		}
		b.remove(from, at, api.OK)
		b.push(to, at, api.OK)
	}
	if n := b.queues[0].Len() + b.queues[1].Len() + b.queues[2].Len(); n != 20 {
		t.Errorf("%d items in all", n)
	}
}

// Promises 9.1 to 9.3: in an arena of all pages that there may be, as many headers as go into it.
func TestAllPages(t *testing.T) {
	a, _ := arena.New(32)
	for range 32 {
		a.Grant(1)
	}
	q := New(a)
	list := spots(800)
	for i, at := range list {
		if e := q.Push(at); e != api.OK || q.Len() != i+1 {
			t.Fatalf("Push(%d): error %d, %d items", at, e, q.Len())
		}
	}
	slices.Reverse(list)
	if got := q.List(); !slices.Equal(got, list) {
		t.Errorf("a queue of 800 items: %v", got)
	}
	leads(t, a, q, list)
	for _, at := range list[:799] {
		if e := q.Remove(at); e != api.OK {
			t.Fatalf("Remove(%d): error %d", at, e)
		}
	}
	leads(t, a, q, list[799:])
	q.Remove(list[799])
	for at, want := range map[int]api.Errno{32*size - header: api.OK, 32*size - header + 1: api.ErrRange, 32 * size: api.ErrRange} {
		if e := q.Push(at); e != want {
			t.Errorf("Push(%d): error %d, not %d", at, e, want)
		}
	}
	if list := q.List(); !slices.Equal(list, []int{32*size - header}) {
		t.Errorf("the last place that there may be: %v", list)
	}
}

// leads looks whether the bytes of FAfter lead from the first one through all, and those of FPrev from the last one back, and Before, too.
func leads(t *testing.T, a *arena.Arena, q *Queue, list []int) {
	t.Helper()
	for i, at := range list {
		behind, e := a.Place(at + 8)
		if e != api.OK || i+1 < len(list) && behind != list[i+1] || i+1 == len(list) && behind != -1 {
			t.Fatalf("behind %d, of %v: %d, error %d", at, list, behind, e)
		}
		ahead, e := a.Place(at + 4)
		if e != api.OK || i > 0 && ahead != list[i-1] || i == 0 && ahead != -1 {
			t.Fatalf("ahead of %d, of %v: %d, error %d", at, list, ahead, e)
		}
	}
	var back []int
	at, ok := q.Tail()
	for ok && len(back) <= len(list) {
		back = append(back, at)
		at, ok = q.Before(at)
	}
	slices.Reverse(back)
	if at != 0 || !slices.Equal(back, list) {
		t.Fatalf("from Tail by Before: %v, and %d, not %v", back, at, list)
	}
}

// Promise 9.2: Before of each item, of the first one and of what is not in the queue.
func TestBefore(t *testing.T) {
	b := of(t, "gfg", 2048, 0, 984, 64)
	for _, c := range []struct {
		at, ahead int
		ok        bool
	}{
		{64, 984, true}, {984, 0, true}, {0, 2048, true}, {2048, 0, false}, {128, 0, false}, {-1, 0, false}, {1024, 0, false}, {985, 0, false}, {3072, 0, false},
		{math.MaxInt, 0, false}, {math.MinInt, 0, false}, {far, 0, false}, {-far, 0, false}, {far + 64, 0, false}, {65, 0, false}, {60, 0, false},
	} {
		if ahead, ok := b.queues[0].Before(c.at); ahead != c.ahead || ok != c.ok {
			t.Errorf("Before(%d): %d, %t, not %d, %t", c.at, ahead, ok, c.ahead, c.ok)
		}
	}
	b.remove(0, 0, api.OK)
	if ahead, ok := b.queues[0].Before(0); ahead != 0 || ok {
		t.Errorf("Before of what was removed: %d, %t", ahead, ok)
	}
}

// Promise 9.2: the last item may be the one at place 0, and the one ahead of another one, too: they are there.
func TestPlaceNought(t *testing.T) {
	b := of(t, "g", 64, 0)
	if at, ok := b.queues[0].Tail(); at != 0 || !ok {
		t.Errorf("Tail: %d, %t", at, ok)
	}
	b.remove(0, 0, api.OK)
	b.push(0, 0, api.OK)
	if at, ok := b.queues[0].Before(64); at != 0 || !ok {
		t.Errorf("Before(64): %d, %t", at, ok)
	}
	if at, ok := b.queues[0].Before(0); at != 0 || ok {
		t.Errorf("Before(0): %d, %t", at, ok)
	}
}

// Promise 9.2: what is asked changes nothing, however often it is asked.
func TestAskingChangesNothing(t *testing.T) {
	b := of(t, "ggg", spots(60)...)
	for range 3 {
		b.everyPlace()
		b.same("questions")
	}
}

// Promise 9.2 and rule R4: a list that is handed out is its asker's alone: what he writes into it, and behind its end, is in no other, nor in the queue.
func TestListIsHandedOut(t *testing.T) {
	for n := range 9 {
		b := of(t, "gg", spots(n)...)
		want := slices.Clone(b.lists[0])
		first, second := b.queues[0].List(), b.queues[0].List()
		first = first[:cap(first)]
		for i := range first {
			first[i] = 5
		}
		if !slices.Equal(second, want) {
			t.Errorf("two answers share memory: %v, not %v", second, want)
		}
		second = append(second, 7)
		second[0] = 6
		b.same("a change of lists that were handed out")
		at := 1900
		b.push(0, at, api.OK)
		third := b.queues[0].List()
		b.remove(0, at, api.OK)
		if !slices.Equal(third, append([]int{at}, want...)) || second[0] != 6 {
			t.Errorf("a list that was handed out goes with the queue: %v", third)
		}
	}
}

// Promise 9.2: a walk along the items that is left early tells the first ones alone, and leaves the queue as it is; the next one begins anew.
func TestWalkIsLeftEarly(t *testing.T) {
	for n := range 8 {
		b := of(t, "g", spots(n)...)
		list, items := b.lists[0], b.queues[0].items()
		for leave := 1; leave <= n+1; leave++ {
			var met []int
			for at := range items {
				met = append(met, at)
				if len(met) == leave {
					break
				}
			}
			if !slices.Equal(met, list[:min(leave, n)]) {
				t.Errorf("a walk that is left behind %d, of %v: %v", leave, list, met)
			}
			b.same("a walk that is left early")
		}
		for _, at := range slices.Clone(list) {
			b.remove(0, at, api.OK)
		}
		for at := range items {
			t.Errorf("a walk behind all was removed: %d", at)
		}
	}
}

// Promise 9.2: from the last one back by Before, left early, and gone on with where an item was taken out and others came.
func TestBackAndForth(t *testing.T) {
	b := of(t, "g", 0, 64, 128, 192, 256)
	at, _ := b.queues[0].Tail()
	at, _ = b.queues[0].Before(at)
	b.remove(0, 256, api.OK)
	b.remove(0, 128, api.OK)
	b.push(0, 320, api.OK)
	b.insert(0, 64, 384, api.OK)
	var back []int
	for ok := true; ok && len(back) < 10; at, ok = b.queues[0].Before(at) {
		back = append(back, at)
	}
	if !slices.Equal(back, []int{192, 384, 64, 0, 320}) {
		t.Errorf("back from 192: %v", back)
	}
}

// Promise 9.3: what is pushed and not removed comes in the order of its coming, the youngest first.
func TestOrderOfComing(t *testing.T) {
	for seed := range 20 {
		b := made(t, 1, "ggg")
		var came []int
		for _, v := range noise(uint64(seed)+1, 120) {
			at := int(v)%75/25*size + int(v)%25*header
			if i := slices.Index(came, at); i >= 0 {
				b.remove(0, at, api.OK)
				came = slices.Delete(came, i, i+1)
			} else {
				b.push(0, at, api.OK)
				came = append(came, at)
			}
			list := slices.Clone(came)
			slices.Reverse(list)
			b.is(list...)
			leads(t, b.a, b.queues[0], list)
		}
	}
}

// Promise 9.3: FAfter leads through all and FPrev back, behind calls without order, right ones and wrong ones, of several queues over one arena.
func TestManyCalls(t *testing.T) {
	for seed := range 60 {
		pages := []string{"gg", "gfg", "fggf", "g", "gggg"}[seed%5]
		b := made(t, 1+seed%3, pages)
		dice := noise(uint64(seed)+100, 4*200)
		for len(dice) > 0 {
			b.someCall(dice[:4])
			dice = dice[4:]
		}
		for n, list := range b.lists {
			leads(t, b.a, b.queues[n], list)
		}
	}
}

// someCall does the call that four bytes without order tell; each of a page's headers is of one queue alone.
func (b *both) someCall(dice []byte) {
	b.t.Helper()
	spot := func(v byte) int { return int(v/25) % len(b.granted) * size }
	n := int(dice[1]) % len(b.lists)
	place := func(v byte) int {
		i := int(v) % 25
		return spot(v) + (i-i%len(b.lists)+n)%25*header
	}
	at, behind := place(dice[2]), place(dice[3])
	if dice[0] >= 240 {
		at = farAways[int(dice[2])%len(farAways)]
	}
	if len(b.lists[n]) > 0 && dice[0]%16 >= 4 {
		behind = b.lists[n][int(dice[3])%len(b.lists[n])]
	}
	for other, list := range b.lists {
		if other != n && slices.Contains(list, at) {
			b.remove(n, at, api.ErrNone)
			b.remove(other, at, api.OK)
		}
	}
	switch dice[0] % 8 {
	case 0, 1:
		b.push(n, at, b.pushError(n, at))
	case 2, 3, 4:
		b.insert(n, behind, at, b.insertError(n, behind, at))
	case 5, 6:
		b.remove(n, behind, b.removeError(n, behind))
	case 7:
		b.remove(n, at, b.removeError(n, at))
	}
}

// Rule R1: all calls end, and none panics, also where somebody else changed the fields of items of a queue, gave their page back, or pushed headers that have bytes in common.
func TestCallsEnd(t *testing.T) {
	places := []int{0, 64, 128, 984, 1024}
	all := func(q *Queue) {
		for _, at := range append([]int{32, 4, 8, 36, 2048}, append(places, farAways...)...) {
			for _, behind := range places {
				q.Insert(behind, at)
				q.Before(at)
				if list := q.List(); len(list) > q.Len() {
					t.Errorf("a list of %d, of %d items", len(list), q.Len())
				}
			}
			q.Remove(at)
			q.Push(at)
			q.Tail()
			q.List()
			if n := q.Len(); q.Has(at) && n < 1 {
				t.Errorf("a queue with %d, of %d items", at, n)
			}
		}
	}
	for _, v := range []int{-1, 0, 4, 64, 984, 1020, 1023, 2048, 5000, math.MaxInt32} {
		for _, spoilt := range places {
			for _, field := range []int{item.FPrev, item.FAfter} {
				b := of(t, "gg", places...)
				item.Set(b.a, spoilt, field, v)
				all(b.queues[0])
				b = of(t, "gg", places...)
				b.a.Write(spoilt+4, []byte{0, 0, 0, 128, 0, 0, 0, 254})
				all(b.queues[0])
			}
		}
	}
	for page := range 2 {
		b := of(t, "gg", places...)
		b.a.Return(page)
		all(b.queues[0])
		b.a.Return(1 - page)
		all(b.queues[0])
		b.a.Grant(0)
		all(b.queues[0])
	}
}
