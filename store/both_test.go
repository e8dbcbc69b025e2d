package store

import (
	"encoding/binary"
	"fmt"
	"math"
	"reflect"
	"slices"
	"testing"

	"tallboy/api"
	"tallboy/model"
	"tallboy/verb"
)

// far is a whole number beyond all that an arena has, whose lowest 32 bits are 0.
const far = 1 << 32

// wrongClasses are those that no store has; some have a right one as their lowest bits.
var wrongClasses = []int{-1, -2, -8, -256, 8, 9, 16, 255, 256, math.MaxInt32, math.MinInt32, far, far + 1, -far, -far + 1, math.MaxInt, math.MinInt, math.MinInt + 1}

// wrongPages are numbers of pages that no store has.
var wrongPages = []int{-1, -2, -32, -1024, 32, 33, 64, 1024, math.MaxInt32, math.MinInt32, far, far + 1, -far, 1 << 54, 1<<54 + 1, math.MaxInt, math.MinInt, math.MinInt + 1}

// farAways are addresses in no store; some have a right one as their lowest bits.
var farAways = []int{-1, -4, -64, -1023, -1024, -1025, math.MinInt32, -far, -far + 64, math.MinInt, math.MinInt + 64, math.MinInt + 1024,
	32 * size, 32*size + 64, 1 << 16, math.MaxInt32, 1 << 31, far, far + 64, far + 1024, math.MaxInt, math.MaxInt - 39, math.MaxInt - 1023}

// both are a store, and what it must be.
type both struct {
	t *testing.T
	s *Store
	w *want
	m *model.Model // nil: it is not asked
}

// made is a new store, and what it must be.
func made(t *testing.T, pages, over, under int) *both {
	t.Helper()
	s, e := New(pages, over, under)
	if e != 0 || s == nil {
		t.Fatalf("New(%d, %d, %d): error %d", pages, over, under, e)
	}
	w, _ := wantNew(pages, over, under)
	return &both{t, s, w, model.New()}
}

// told is what a call answered, to be held against what it must be.
func told(parts ...any) string {
	list := slices.Clone(parts)
	for i, p := range list {
		if e, ok := p.(api.Errno); ok {
			list[i] = int(e)
		}
	}
	return fmt.Sprintf("%q", fmt.Sprintf("%+v", list))
}

// must fails, if an answer is not what it must be.
func (b *both) must(call, got, want string) {
	b.t.Helper()
	if got != want {
		b.t.Fatalf("%s: %s, not %s", call, got, want)
	}
}

// do does a command, and holds it against the words, and the model.
func (b *both) do(c api.Command, now int64) (verb.Result, []Drop) {
	b.t.Helper()
	before := c
	before.Keys = slices.Clone(c.Keys)
	r, drops, e := b.s.Do(c, now)
	if !reflect.DeepEqual(c, before) {
		b.t.Fatalf("Do changed its command: %+v, not %+v", c, before)
	}
	wr, wdrops, we := b.w.do(c, now)
	call := fmt.Sprintf("Do(%d %q, %d bytes, exp %d, cas %d, at %d)", c.Kind, c.Keys, len(c.Value), c.Exp, c.Cas, now)
	b.must(call, told(r, drops, e), told(wr, wdrops, we))
	b.asModel(c, now, r, drops, e)
	return r, drops
}

// asModel holds a result against the model's, with the drops ahead of it.
func (b *both) asModel(c api.Command, now int64, r verb.Result, drops []Drop, e api.Errno) {
	b.t.Helper()
	if b.m == nil {
		return
	}
	for _, d := range drops {
		// The key of a Set that failed the model takes away itself.
		if d.Why == 1 && !b.m.Drop(d.Key) {
			b.t.Fatalf("dropped: %q, that the model does not have", d.Key)
		}
	}
	mr, me := b.m.Do(c, now, r.Code == noMemory)
	b.must(fmt.Sprintf("Do(%d %q) by the model", c.Kind, c.Keys), told(r, e), told(mr, me))
}

// find does a Find, and holds its answer against what it must be.
func (b *both) find(key string, now int64) int {
	b.t.Helper()
	at, ok := b.s.Find(key, now)
	wat, wok := 0, false
	if x := b.w.find(key, now); x != nil {
		wat, wok = x.places[0], true
	}
	b.must(fmt.Sprintf("Find(%q, %d)", key, now), told(at, ok), told(wat, wok))
	return at
}

// evict does an Evict, and holds its answer against what it must be.
func (b *both) evict(class int) {
	b.t.Helper()
	key, e := b.s.Evict(class)
	wkey, we := b.w.evict(class)
	b.must(fmt.Sprintf("Evict(%d)", class), told(key, e), told(wkey, we))
	b.drop(key, e == 0)
}

// drop tells the model of an entry that was dropped.
func (b *both) drop(key string, is bool) {
	b.t.Helper()
	if is && b.m != nil && !b.m.Drop(key) {
		b.t.Fatalf("dropped: %q, that the model does not have", key)
	}
}

// hold does a Hold, and holds its answer against what it must be.
func (b *both) hold(at int) {
	b.t.Helper()
	b.must(fmt.Sprintf("Hold(%d)", at), told(b.s.Hold(at)), told(b.w.hold(at)))
}

// release does a Release, and holds its answer against what it must be.
func (b *both) release(at int) {
	b.t.Helper()
	b.must(fmt.Sprintf("Release(%d)", at), told(b.s.Release(at)), told(b.w.release(at)))
}

// juggle does a Juggle, and holds its answer against what it must be.
func (b *both) juggle(class int) {
	b.t.Helper()
	b.must(fmt.Sprintf("Juggle(%d)", class), told(b.s.Juggle(class)), told(b.w.juggle(class)))
}

// grow does a Grow, and holds its answer against what it must be.
func (b *both) grow() {
	b.t.Helper()
	b.must("Grow()", told(b.s.Grow()), told(b.w.grow()))
}

// vacate does a Vacate, and holds its answer against what it must be.
func (b *both) vacate(at int) int {
	b.t.Helper()
	what, key, e := b.s.Vacate(at)
	wwhat, wkey, we := b.w.vacate(at)
	b.must(fmt.Sprintf("Vacate(%d)", at), told(what, key, e), told(wwhat, wkey, we))
	b.drop(key, what == 3)
	return what
}

// give does a Give, and holds its answer against what it must be.
func (b *both) give(page, class int) {
	b.t.Helper()
	b.must(fmt.Sprintf("Give(%d, %d)", page, class), told(b.s.Give(page, class)), told(b.w.hand(page, class)))
}

// leave does a Leave, and holds its answer against what it must be.
func (b *both) leave(page int) {
	b.t.Helper()
	b.must(fmt.Sprintf("Leave(%d)", page), told(b.s.Leave(page)), told(b.w.away(page)))
}

// same holds all that is told of the store against what it must be.
func (b *both) same(after string) {
	b.t.Helper()
	b.sameEntries(after)
	b.sameClasses(after)
	b.samePages(after)
	b.sameBytes(after)
}

// sameEntries holds the keys, and their entries.
func (b *both) sameEntries(after string) {
	b.t.Helper()
	b.must("Keys behind "+after, told(b.s.Keys()), told(b.w.keys()))
	for _, key := range []string{"", "nobody", "two words", "a\x00", string(make([]byte, 40))} {
		if x, ok := b.s.Entry(key); ok || x != (api.Entry{}) {
			b.t.Fatalf("Entry(%q) behind %s: %+v, %v", key, after, x, ok)
		}
	}
	for key, x := range b.w.linked {
		got, ok := b.s.Entry(key)
		b.must(fmt.Sprintf("Entry(%q) behind %s", key, after), told(got, ok),
			told(api.Entry{Value: x.value, Flags: x.flags, Exp: int64(x.ends), Cas: x.cas}, true))
	}
}

// sameClasses holds what is told of each class, and of none.
func (b *both) sameClasses(after string) {
	b.t.Helper()
	b.must("Sizes behind "+after, told(b.s.Sizes()), told(b.w.sizes))
	for class := range b.w.sizes {
		b.must(fmt.Sprintf("Counts(%d) behind %s", class, after), told(b.s.Counts(class)), told(b.w.counts[class]))
		hot, warm, cold := b.s.Segments(class)
		l := b.w.segs[class]
		b.must(fmt.Sprintf("Segments(%d) behind %s", class, after), told(hot, warm, cold), told(len(l[0]), len(l[1]), len(l[2])))
	}
	for _, class := range wrongClasses {
		if hot, warm, cold := b.s.Segments(class); b.s.Counts(class) != (Count{}) || hot != 0 || warm != 0 || cold != 0 {
			b.t.Fatalf("Counts or Segments of no class, %d, behind %s: %+v, %d %d %d", class, after, b.s.Counts(class), hot, warm, cold)
		}
	}
}

// samePages holds what is told of each page, and of none.
func (b *both) samePages(after string) {
	b.t.Helper()
	pages, free := make([]int, len(b.w.sizes)), 0
	for page, class := range b.w.owner {
		if class < 0 {
			free++
		} else {
			pages[class]++
		}
		owner, e := b.s.Owner(page)
		b.must(fmt.Sprintf("Owner(%d) behind %s", page, after), told(owner, e), told(class, 0))
		var list []int
		for _, at := range b.w.chunks(page) {
			list = append(list, b.w.status(at))
		}
		chunks, e := b.s.Chunks(page)
		b.must(fmt.Sprintf("Chunks(%d) behind %s", page, after), told(chunks, e), told(list, b.w.pageError(page)))
	}
	gotPages, gotFree := b.s.Pages()
	b.must("Pages behind "+after, told(gotPages, gotFree), told(pages, free))
	for _, page := range append(wrongPages, len(b.w.owner)) {
		owner, e := b.s.Owner(page)
		chunks, ce := b.s.Chunks(page)
		b.must(fmt.Sprintf("Owner and Chunks of page %d behind %s", page, after), told(owner, e, chunks, ce), told(0, 1, []int(nil), 1))
	}
}

// memory is all bytes of a store's pages, as Raw tells them.
type memory struct {
	t     *testing.T
	pages []Page
}

// number is one of so many bytes at an address.
func (m memory) number(at, width int) uint64 {
	m.t.Helper()
	p := m.pages[at/size]
	if len(p.Bytes) != size {
		m.t.Fatalf("the number at %d is asked of a page without bytes", at)
	}
	b := append([]byte(p.Bytes[at%size:at%size+width]), make([]byte, 8)...)
	return binary.LittleEndian.Uint64(b)
}

// place is one at an address.
func (m memory) place(at int) int { return int(int32(m.number(at, 4))) }

// text is so many bytes at an address.
func (m memory) text(at, n int) string { return m.pages[at/size].Bytes[at%size : at%size+n] }

// sameBytes holds what Raw tells: the roots, the number, and what lies in the pages.
func (b *both) sameBytes(after string) {
	b.t.Helper()
	pages, roots, laid := b.s.Raw()
	var wantRoots []int
	for _, x := range b.w.linked {
		wantRoots = append(wantRoots, x.places[0])
	}
	slices.Sort(wantRoots)
	b.must("Raw behind "+after, told(len(pages), roots, laid), told(len(b.w.owner), wantRoots, b.w.laid))
	for i, p := range pages {
		n := size
		if b.w.owner[i] < 0 {
			n = 0
		}
		b.must(fmt.Sprintf("page %d of Raw behind %s", i, after), told(p.Class, len(p.Bytes)), told(b.w.owner[i], n))
	}
	m := memory{b.t, pages}
	for _, x := range b.w.things() {
		b.sameThing(m, x, after)
	}
	for class := range b.w.sizes {
		b.sameQueues(m, class, after)
		b.sameList(m, class, after)
	}
}

// sameThing holds an item's bytes.
func (b *both) sameThing(m memory, x *thing, after string) {
	b.t.Helper()
	at := x.places[0]
	bits := 0
	if b.w.linked[x.key] == x {
		bits = x.bits()
		seg, _ := b.w.seg(x)
		b.must(fmt.Sprintf("FSeg of %q behind %s", x.key, after), told(m.number(at+35, 1)), told(seg))
	}
	b.must(fmt.Sprintf("the header of %q at %d behind %s", x.key, at, after),
		told(m.number(at+16, 8), m.number(at+24, 4), m.number(at+28, 4), m.number(at+32, 2), m.number(at+34, 1), m.number(at+36, 1), m.number(at+37, 1)),
		told(x.cas, x.ends, x.flags, len(x.value), len(x.key), bits, x.refs))
	n := b.w.sizes[x.class]
	rest := x.key + x.value
	link, head := at+12, 40
	for i, place := range x.places {
		got := m.text(place+head, min(len(rest), n-head))
		b.must(fmt.Sprintf("the bytes of %q in chunk %d behind %s", x.key, place, after), told(got), told(rest[:len(got)]))
		next := -1
		if i+1 < len(x.places) {
			next = x.places[i+1]
		}
		b.must(fmt.Sprintf("the place behind %d of %q behind %s", place, x.key, after), told(m.place(link)), told(next))
		rest, link, head = rest[len(got):], next, 4
	}
}

// sameQueues holds the order of a class's segments, as the headers tell it.
func (b *both) sameQueues(m memory, class int, after string) {
	b.t.Helper()
	for seg, list := range b.w.segs[class] {
		for i, x := range list {
			prev, next := -1, -1
			if i > 0 {
				prev = list[i-1].places[0]
			}
			if i+1 < len(list) {
				next = list[i+1].places[0]
			}
			at := x.places[0]
			b.must(fmt.Sprintf("the neighbours of %q in segment %d of class %d behind %s", x.key, seg, class, after),
				told(m.place(at+4), m.place(at+8)), told(prev, next))
		}
	}
}

// sameList holds the order of a class's free chunks, as their first bytes tell it.
func (b *both) sameList(m memory, class int, after string) {
	b.t.Helper()
	list := b.w.lists[class]
	for i, at := range list {
		next := -1
		if i+1 < len(list) {
			next = list[i+1]
		}
		b.must(fmt.Sprintf("the free chunk behind %d behind %s", at, after), told(m.place(at)), told(next))
	}
}

// sameModel holds the entries that are not gone against the model's.
func (b *both) sameModel(now int64) {
	b.t.Helper()
	if b.m == nil {
		return
	}
	var keys []string
	for _, key := range b.s.Keys() {
		x, _ := b.s.Entry(key)
		if x.Exp != 0 && x.Exp <= now {
			continue
		}
		keys = append(keys, key)
		mx, ok := b.m.Get(key, now)
		b.must("the model's entry of "+key, told(x), told(mx))
		if !ok {
			b.t.Fatalf("%q is there, and not in the model", key)
		}
	}
	b.must("the model's keys", told(keys), told(b.m.Keys(now)))
}
