package grow

import (
	"bytes"
	"fmt"
	"hash/fnv"
	"math"
	"slices"
	"strings"
	"testing"

	"tallboy/api"
	"tallboy/arena"
	"tallboy/assoc"
	"tallboy/item"
)

// size is how many bytes a page has.
const size = 1024

// header is how many bytes an item's header has; in them its key's length, and where the item behind it in its bucket begins.
const (
	header = 40
	keyAt  = 34
	nextAt = 0
)

// far is a whole number beyond all that an arena has, whose lowest 32 bits are 0.
const far = 1 << 32

// farAways are addresses in no arena; some have a right one as their lowest bits.
var farAways = []int{-1, -2, -39, -40, -41, -64, -1023, -1024, -1025, math.MinInt32, -far, -far + 64, math.MinInt, math.MinInt + 64,
	32 * size, 32*size + 64, 1 << 16, math.MaxInt32, 1 << 31, far - 1, far, far + 64, 1 << 62, math.MaxInt, math.MaxInt - 39, math.MaxInt - 40, math.MaxInt - 63, math.MaxInt - 1023}

// noKeys are texts that are none.
var noKeys = []string{"", " ", "a b", " a", "a ", "a\n", "\x00", "a\x00", "\x1f", "\x7f", "a\x7f", "\x80", "\xff", "é", "日本", strings.Repeat("k", 33), strings.Repeat("k", 1<<16)}

// ground is an arena, all bytes that must be in it, and the tables over it.
type ground struct {
	t       *testing.T
	a       *arena.Arena
	granted []bool
	bytes   []byte
	tables  []*table
}

// table is a table that grows, and what it must be: the buckets of the old one and of the new one, with their items in order, and how many have been moved.
type table struct {
	*ground
	g     *Grow
	old   [][]int
	new   [][]int // nil, if it does not grow
	moved int
}

// laid is an arena with a page for each sign, g: granted, with bytes without order, f: free.
func laid(t *testing.T, pages string) *ground {
	t.Helper()
	a, e := arena.New(len(pages))
	if e != api.OK {
		t.Fatalf("an arena of %d pages: error %d", len(pages), e)
	}
	b := &ground{t: t, a: a, granted: make([]bool, len(pages)), bytes: noise(uint64(len(pages)), len(pages)*size)}
	for page := range pages {
		a.Grant(page % 8)
		a.Write(page*size, b.bytes[page*size:(page+1)*size])
	}
	for page, sign := range pages {
		b.granted[page] = sign == 'g'
		if sign == 'f' {
			a.Return(page)
		}
	}
	return b
}

// more makes one more table.
func (b *ground) more() *table {
	b.t.Helper()
	x := &table{ground: b, g: New(b.a), old: make([][]int, 8)}
	if x.g == nil {
		b.t.Fatal("New is nil")
	}
	b.tables = append(b.tables, x)
	b.same("New")
	return x
}

// made is one table, over an arena with pages by signs.
func made(t *testing.T, pages string) *table {
	t.Helper()
	return laid(t, pages).more()
}

// grownTo is a table of so many buckets that does not grow.
func grownTo(t *testing.T, pages string, buckets int) *table {
	t.Helper()
	x := made(t, pages)
	for len(x.old) < buckets {
		x.start(api.OK)
		x.steps(len(x.old))
	}
	x.state(buckets, 0, false)
	return x
}

// noise is n bytes without order, others for each seed.
func noise(seed uint64, n int) []byte {
	v := 88172645463325252 + seed*0x9E3779B97F4A7C15
	b := make([]byte, n)
	for i := range b {
		v ^= v << 13
		v ^= v >> 7
		v ^= v << 17
		b[i] = byte(v >> 24)
	}
	return b
}

// lay lays a key's length and its bytes where an item begins; the header's other bytes stay without order.
func (b *ground) lay(at int, key string) {
	b.t.Helper()
	b.layBytes(at+keyAt, []byte{byte(len(key))})
	b.layBytes(at+header, []byte(key))
}

// layBytes lays bytes into the arena, and into what must be there, page by page.
func (b *ground) layBytes(at int, list []byte) {
	b.t.Helper()
	for i, v := range list {
		if e := b.a.Write(at+i, []byte{v}); e != api.OK {
			b.t.Fatalf("the test writes to %d: error %d", at+i, e)
		}
		b.bytes[at+i] = v
	}
}

// layNext lays what an item's FNext must say into the bytes that must be there, the lowest byte first.
func (b *ground) layNext(at, next int) {
	for i := range 4 {
		b.bytes[at+nextAt+i] = byte(next >> (8 * i))
	}
}

// chain lays what the FNext of a bucket's items must say.
func (b *ground) chain(list []int) {
	for i, at := range list {
		next := -1
		if i+1 < len(list) {
			next = list[i+1]
		}
		b.layNext(at, next)
	}
}

// within tells by the document's words whether n bytes lie within a granted page.
func (b *ground) within(at, n int) bool {
	if at < 0 || at >= len(b.bytes) || !b.granted[at/size] {
		return false
	}
	for i := range n {
		if (at+i)/size != at/size {
			return false
		}
	}
	return true
}

// keyOf is what assoc's Key must answer.
func (b *ground) keyOf(at int) (string, api.Errno) {
	if !b.within(at, header) {
		return "", api.ErrRange
	}
	n := int(b.bytes[at+keyAt])
	if !b.within(at+header, n) {
		return "", api.ErrRange
	}
	key := string(b.bytes[at+header : at+header+n])
	if !isKey(key) {
		return "", api.ErrField
	}
	return key, api.OK
}

// isKey tells by the document's words whether a text is a key.
func isKey(key string) bool {
	for _, v := range []byte(key) {
		if v < 33 || v > 126 {
			return false
		}
	}
	return len(key) >= 1 && len(key) <= 32
}

// bucketOf is a key's bucket of n, by the library's FNV-1a.
func bucketOf(key string, n int) int {
	h := fnv.New32a()
	h.Write([]byte(key))
	return int(h.Sum32() % uint32(n))
}

// keysOf are n keys of one bucket.
func keysOf(bucket, buckets, n int) []string {
	var list []string
	for i := 0; len(list) < n; i++ {
		if key := fmt.Sprint("k", i); bucketOf(key, buckets) == bucket {
			list = append(list, key)
		}
	}
	return list
}

// all is what All must answer.
func (x *table) all() []int {
	return append(slices.Concat(x.old...), slices.Concat(x.new...)...)
}

// find is what Find must answer: all items are gone through, whatever their tables and buckets are.
func (x *table) find(key string) (int, bool) {
	for _, at := range x.all() {
		if has, e := x.keyOf(at); e == api.OK && has == key {
			return at, true
		}
	}
	return 0, false
}

// hasMoved tells whether a key's bucket has been moved.
func (x *table) hasMoved(key string) bool {
	return x.new != nil && bucketOf(key, len(x.old)) < x.moved
}

// bucket is the bucket of a key, in its table.
func (x *table) bucket(key string) *[]int {
	if x.hasMoved(key) {
		return &x.new[bucketOf(key, len(x.new))]
	}
	return &x.old[bucketOf(key, len(x.old))]
}

// insertError is what Insert must answer.
func (x *table) insertError(at int) api.Errno {
	key, e := x.keyOf(at)
	if e != api.OK {
		return e
	}
	if _, ok := x.find(key); ok {
		return api.ErrTwice
	}
	return api.OK
}

// insert does an Insert, whose error the test names, and holds all against what it must be.
func (x *table) insert(at int, e api.Errno) {
	x.t.Helper()
	if want := x.insertError(at); want != e {
		x.t.Fatalf("the test says error %d of Insert(%d), the document %d", e, at, want)
	}
	if _, ke := assoc.Key(x.a, at); ke != api.OK && ke != e {
		x.t.Fatalf("the test says error %d of Insert(%d), assoc's Key %d", e, at, ke)
	}
	if got := x.g.Insert(at); got != e {
		x.t.Fatalf("Insert(%d) into %v, %v: error %d, not %d", at, x.old, x.new, got, e)
	}
	if e == api.OK {
		key, _ := x.keyOf(at)
		list := x.bucket(key)
		*list = slices.Insert(slices.Clone(*list), 0, at)
		x.chain(*list)
	}
	x.same("Insert")
}

// put lays a key where an item begins, and does an Insert of it that must be right.
func (x *table) put(at int, key string) {
	x.t.Helper()
	x.lay(at, key)
	x.insert(at, api.OK)
}

// delete does a Delete, whose place or error the test names, and holds all against what it must be.
func (x *table) delete(key string, at int, e api.Errno) {
	x.t.Helper()
	want, ok := x.find(key)
	if want != at || ok != (e == api.OK) {
		x.t.Fatalf("the test says %d, error %d, of Delete(%q), the document %d, %t", at, e, key, want, ok)
	}
	if got, has := x.g.Delete(key); got != at || has != e {
		x.t.Fatalf("Delete(%q) from %v, %v: %d, error %d, not %d, error %d", key, x.old, x.new, got, has, at, e)
	}
	if e == api.OK {
		list := x.bucket(key)
		*list = slices.DeleteFunc(slices.Clone(*list), func(other int) bool { return other == at })
		x.layNext(at, -1)
		x.chain(*list)
	}
	x.same("Delete")
}

// start does a Start, whose error the test names, and holds all against what it must be.
func (x *table) start(e api.Errno) {
	x.t.Helper()
	want := api.OK
	if x.new != nil {
		want = api.ErrState
	} else if len(x.old) == 64 {
		want = api.ErrFull
	}
	if want != e {
		x.t.Fatalf("the test says error %d of Start, the document %d", e, want)
	}
	if got := x.g.Start(); got != e {
		x.t.Fatalf("Start of %d buckets, %d moved: error %d, not %d", len(x.old), x.moved, got, e)
	}
	if e == api.OK {
		x.new = make([][]int, 2*len(x.old))
	}
	x.same("Start")
}

// step does a Step, whose answer the test names, and holds all against what it must be.
func (x *table) step(on bool) {
	x.t.Helper()
	if want := x.new != nil && x.moved+1 < len(x.old); want != on {
		x.t.Fatalf("the test says %t of Step, the document %t", on, want)
	}
	if got := x.g.Step(); got != on {
		x.t.Fatalf("Step of %d buckets, %d moved: %t, not %t", len(x.old), x.moved, got, on)
	}
	if x.new != nil {
		x.move()
	}
	x.same("Step")
}

// move is what a Step must do.
func (x *table) move() {
	for _, at := range x.old[x.moved] {
		key, _ := x.keyOf(at)
		list := &x.new[bucketOf(key, len(x.new))]
		*list = append(*list, at)
		x.chain(*list)
	}
	x.old[x.moved] = nil
	x.moved++
	if x.moved == len(x.old) {
		x.old, x.new, x.moved = x.new, nil, 0
	}
}

// steps does n Steps of a table that grows.
func (x *table) steps(n int) {
	x.t.Helper()
	for range n {
		x.step(x.moved+1 < len(x.old))
	}
}

// same holds the arena's bytes, and all that the tables tell, against what they must be.
func (b *ground) same(after string) {
	b.t.Helper()
	for page, granted := range b.granted {
		got, e := b.a.Read(page*size, size)
		if (e == api.OK) != granted || granted && !bytes.Equal(got, b.bytes[page*size:(page+1)*size]) {
			b.t.Fatalf("page %d behind %s: error %d, or other bytes", page, after, e)
		}
	}
	for _, x := range b.tables {
		x.told(after)
	}
}

// told holds what a table tells against what it must tell.
func (x *table) told(after string) {
	x.t.Helper()
	all := x.all()
	if list := x.g.All(); !slices.Equal(list, all) {
		x.t.Fatalf("All behind %s: %v, not %v", after, list, all)
	}
	if n := x.g.Len(); n != len(all) {
		x.t.Fatalf("Len behind %s: %d, not %d", after, n, len(all))
	}
	if n, moved, on := x.g.State(); n != len(x.old) || moved != x.moved || on != (x.new != nil) {
		x.t.Fatalf("State behind %s: %d, %d, %t, not %d, %d, %t", after, n, moved, on, len(x.old), x.moved, x.new != nil)
	}
	for _, at := range all {
		key, _ := x.keyOf(at)
		for _, other := range []string{key, key + "x", key[1:]} {
			x.found(other, after)
		}
	}
	for _, key := range []string{"", "nobody's", "a b", "k\x80"} {
		x.found(key, after)
	}
}

// found holds Find against what it must answer.
func (x *table) found(key, after string) {
	x.t.Helper()
	want, there := x.find(key)
	if at, ok := x.g.Find(key); at != want || ok != there {
		x.t.Fatalf("Find(%q) behind %s: %d, %t, not %d, %t", key, after, at, ok, want, there)
	}
}

// is tells what All is to be, so that a test's own words stand beside what is reckoned.
func (x *table) is(want ...int) {
	x.t.Helper()
	if list := x.g.All(); !slices.Equal(list, want) {
		x.t.Fatalf("All is %v, not %v", list, want)
	}
}

// state tells what State is to be, in a test's own words.
func (x *table) state(n, moved int, on bool) {
	x.t.Helper()
	if buckets, m, grows := x.g.State(); buckets != n || m != moved || grows != on {
		x.t.Fatalf("State: %d, %d, %t, not %d, %d, %t", buckets, m, grows, n, moved, on)
	}
}

// next tells what an item's FNext is to be, in a test's own words.
func (x *table) next(at, want int) {
	x.t.Helper()
	if v, e := x.a.Place(at + nextAt); v != want || e != api.OK {
		x.t.Fatalf("FNext of %d: %d, error %d, not %d", at, v, e, want)
	}
}

// letters lays and inserts an item for each letter, at 64 times its place in the text.
func (x *table) letters(text string) {
	x.t.Helper()
	for i := range len(text) {
		x.put(64*i, text[i:i+1])
	}
}

// Promises 11.1 to 11.3: the chapter's example.
func TestExample(t *testing.T) {
	a, _ := arena.New(1)
	g := New(a)
	for _, n := range []int{8, 16, 32} {
		if e := g.Start(); e != api.OK {
			t.Fatalf("Start of %d buckets: error %d", n, e)
		}
		for i := range n {
			if on := g.Step(); on != (i < n-1) {
				t.Errorf("Step %d of %d: %t", i, n, on)
			}
		}
		if buckets, moved, on := g.State(); buckets != 2*n || moved != 0 || on {
			t.Errorf("%d buckets have grown to %d, %d, %t", n, buckets, moved, on)
		}
	}
	if e := g.Start(); e != api.ErrFull {
		t.Errorf("Start of 64 buckets: error %d", e)
	}
}

// Promise 11.1: a new table has 8 buckets, no items, and does not grow; it asks nothing of the arena, and lays nothing into it.
func TestNew(t *testing.T) {
	for _, pages := range []string{"g", "f", "gf", "fg", "ff", "ggg", strings.Repeat("g", 32), strings.Repeat("f", 32)} {
		x := made(t, pages)
		x.state(8, 0, false)
		x.is()
		if n := x.g.Len(); n != 0 {
			t.Errorf("a new table has %d items", n)
		}
		for _, key := range append(noKeys, "a", "b", "abc") {
			x.delete(key, 0, api.ErrNone)
		}
		x.step(false)
		x.state(8, 0, false)
	}
}

// Promise 11.1: headers in the arena that look as if they were in a table are in no new one.
func TestNewOverWhatIsThere(t *testing.T) {
	x := made(t, "g")
	x.letters("abcdefghijklmnop")
	for _, steps := range []int{0, 3, 5} {
		if steps == 3 {
			x.start(api.OK)
		}
		x.steps(steps)
		y := x.more()
		y.is()
		y.state(8, 0, false)
		for _, key := range "abcdefghijklmnop" {
			y.delete(string(key), 0, api.ErrNone)
		}
		y.start(api.OK)
		y.steps(8)
		y.is()
		x.tables = x.tables[:1]
	}
}

// Promise 11.1: without growing the calls are those of assoc's table of 8 buckets: the same answers, and the same bytes.
func TestAsAssoc(t *testing.T) {
	grounds := []*ground{laid(t, "gg"), laid(t, "gg")}
	g := New(grounds[0].a)
	table, _ := assoc.New(grounds[1].a, 8)
	dice := noise(7, 3*3000)
	for ; len(dice) > 0; dice = dice[3:] {
		key := string(rune('a' + dice[1]%20))
		at := int(dice[2]) % 40 * 64
		switch dice[0] % 3 {
		case 0, 1:
			if !slices.Contains(g.All(), at) && at+64 <= 2*size {
				for _, b := range grounds {
					b.lay(at, key)
				}
			}
			if got, want := g.Insert(at), table.Insert(at); got != want {
				t.Fatalf("Insert(%d): error %d, not %d", at, got, want)
			}
		case 2:
			got, ge := g.Delete(key)
			if want, we := table.Delete(key); got != want || ge != we {
				t.Fatalf("Delete(%q): %d, error %d, not %d, error %d", key, got, ge, want, we)
			}
		}
		at, ok := g.Find(key)
		if want, there := table.Find(key); at != want || ok != there {
			t.Fatalf("Find(%q): %d, %t, not %d, %t", key, at, ok, want, there)
		}
		var all []int
		for bucket := range 8 {
			list, _ := table.Bucket(bucket)
			all = append(all, list...)
		}
		if list := g.All(); !slices.Equal(list, all) {
			t.Fatalf("All: %v, not %v", list, all)
		}
		for page := range 2 {
			got, _ := grounds[0].a.Read(page*size, size)
			want, _ := grounds[1].a.Read(page*size, size)
			if !bytes.Equal(got, want) {
				t.Fatalf("page %d has other bytes than assoc's", page)
			}
		}
	}
}

// Promise 11.1: Find, Insert and Delete by a test's own words: a bucket's youngest item first.
func TestBuckets(t *testing.T) {
	x := made(t, "g")
	// Buckets of 8: a 4, i 4, q 4, b 5, e 0, m 0.
	x.put(0, "a")
	x.is(0)
	x.next(0, -1)
	x.put(64, "i")
	x.is(64, 0)
	x.next(64, 0)
	x.put(128, "b")
	x.is(64, 0, 128)
	x.put(192, "e")
	x.is(192, 64, 0, 128)
	x.put(256, "q")
	x.is(192, 256, 64, 0, 128)
	x.put(320, "m")
	x.is(320, 192, 256, 64, 0, 128)
	x.delete("i", 64, api.OK)
	x.is(320, 192, 256, 0, 128)
	x.next(64, -1)
	x.next(256, 0)
	x.delete("i", 0, api.ErrNone)
	x.delete("q", 256, api.OK)
	x.delete("m", 320, api.OK)
	x.is(192, 0, 128)
	x.insert(64, api.OK)
	x.is(192, 64, 0, 128)
	x.state(8, 0, false)
}

// Promise 11.2: All while it grows, by a test's own words: what has not been moved, bucket by bucket, and then the new table's, bucket by bucket.
func TestOrderWhileItGrows(t *testing.T) {
	x := made(t, "g")
	// Letter, bucket of 8, bucket of 16: a 4 12, b 5 5, c 2 2, d 3 3, e 0 0, f 1 9, g 6 6, h 7 7, i 4 4, j 5 13, k 2 10, l 3 11, m 0 8, n 1 1, o 6 14, p 7 15.
	text := "abcdefghijklmnop"
	x.letters(text)
	isText := func(want string) {
		t.Helper()
		var list []int
		for i := range len(want) {
			list = append(list, 64*strings.IndexByte(text, want[i]))
		}
		x.is(list...)
	}
	isText("menfkcldiajbogph")
	x.start(api.OK)
	isText("menfkcldiajbogph")
	for moved, want := range []string{
		"nfkcldiajbogph" + "em",
		"kcldiajbogph" + "enmf",
		"ldiajbogph" + "encmfk",
		"iajbogph" + "encdmfkl",
		"jbogph" + "encdimfkla",
		"ogph" + "encdibmfklaj",
		"ph" + "encdibgmfklajo",
	} {
		x.step(true)
		x.state(8, moved+1, true)
		isText(want)
	}
	x.step(false)
	x.state(16, 0, false)
	isText("encdibghmfklajop")
	x.step(false)
	isText("encdibghmfklajop")
}

// Promise 11.2: items of a moved bucket stand in each bucket of the new table in the order in which they stood.
func TestOrderOfOneBucket(t *testing.T) {
	x := made(t, "g")
	// All of bucket 4 of 8; of bucket 12 of 16: a, q; of bucket 4: i, y.
	for i, key := range []string{"a", "i", "q", "y"} {
		x.put(64*i, key)
	}
	x.is(192, 128, 64, 0)
	x.start(api.OK)
	x.steps(4)
	x.is(192, 128, 64, 0)
	x.step(true)
	x.is(192, 64, 128, 0)
	x.next(192, 64)
	x.next(64, -1)
	x.next(128, 0)
	x.next(0, -1)
	x.steps(3)
	x.is(192, 64, 128, 0)
	// Of 32 buckets: i 4, y 20, a 12, q 28.
	x.start(api.OK)
	x.steps(5)
	x.is(128, 0, 64, 192)
	x.steps(11)
	x.is(64, 0, 192, 128)
	for _, at := range []int{0, 64, 128, 192} {
		x.next(at, -1)
	}
}

// Promise 11.2: as the one ahead, of each bucket of each number of buckets, with none to five items, so that all or none go to either bucket of the new table, or some in each order.
func TestEachBucketMoves(t *testing.T) {
	for _, n := range []int{8, 16, 32} {
		for bucket := range n {
			low, high := keysOf(bucket, 2*n, 5), keysOf(bucket+n, 2*n, 5)
			for _, form := range []string{"", "l", "h", "lh", "hl", "ll", "hh", "lhl", "hlh", "llh", "hhl", "lhhl", "hllh", "lhlhl", "hhhhh", "lllll"} {
				if n == 32 && len(form) == 3 || n == 16 && len(form) == 4 {
					continue
				}
				x := grownTo(t, "g", n)
				for i, sign := range form {
					key := low[i]
					if sign == 'h' {
						key = high[i]
					}
					x.put(64*i, key)
				}
				x.start(api.OK)
				x.steps(n)
				x.state(2*n, 0, false)
			}
		}
	}
}

// Promise 11.2: Step moves the first bucket that has not been moved, and no other; what is in the old table's others stays as it is.
func TestStepMovesOneBucket(t *testing.T) {
	x := made(t, "gg")
	for i := range 32 {
		x.put(64*i, keysOf(i%8, 8, 4)[i/8])
	}
	x.start(api.OK)
	for moved := range 8 {
		ahead := x.g.All()
		x.step(moved < 7)
		list := x.g.All()
		if !slices.Equal(list[:4*(7-moved)], ahead[4:4*(8-moved)]) {
			t.Errorf("Step %d: %v, behind it %v", moved, ahead, list)
		}
		slices.Sort(list)
		if slices.Sort(ahead); !slices.Equal(list, ahead) {
			t.Errorf("Step %d has other items: %v, behind it %v", moved, ahead, list)
		}
	}
}

// Promise 11.2: Start while it grows is ErrState, at each number of buckets that have been moved, and of 32 buckets, too, whose new table is as great as there may be; it changes nothing.
func TestStartWhileItGrows(t *testing.T) {
	for _, n := range []int{8, 16, 32} {
		x := grownTo(t, "g", n)
		x.letters("abcdefghijklmnop")
		x.start(api.OK)
		for moved := range n {
			x.state(n, moved, true)
			x.start(api.ErrState)
			x.start(api.ErrState)
			x.state(n, moved, true)
			x.step(moved < n-1)
		}
		x.state(2*n, 0, false)
	}
}

// Promise 11.2: Start of 64 buckets is ErrFull, and changes nothing: there is no Step then, and all calls are as they were.
func TestStartOfMostBuckets(t *testing.T) {
	x := grownTo(t, "gf", 64)
	x.start(api.ErrFull)
	x.letters("abcdefghijklmno")
	for range 3 {
		x.start(api.ErrFull)
		x.state(64, 0, false)
		x.step(false)
		x.state(64, 0, false)
	}
	x.insert(0, api.ErrTwice)
	x.insert(1024, api.ErrRange)
	x.delete("c", 128, api.OK)
	x.delete("c", 0, api.ErrNone)
	x.put(960, "p")
	x.insert(128, api.OK)
	x.start(api.ErrFull)
	// The least buckets of 64 are those of i 4, g 6, v 9 and l 11.
	x.delete("a", 0, api.OK)
	x.put(0, "v")
	if list := x.g.All(); !slices.Equal(list[:4], []int{8 * 64, 6 * 64, 0, 11 * 64}) {
		t.Errorf("All of 64 buckets: %v", list)
	}
}

// Promise 11.2: Step of a table that does not grow is false, and changes nothing: ahead of each Start, and behind each last Step.
func TestStepWithoutGrowing(t *testing.T) {
	x := made(t, "g")
	x.letters("abcdefghijklmnop")
	for _, n := range []int{8, 16, 32, 64} {
		for range 3 {
			x.step(false)
			x.state(n, 0, false)
		}
		if n == 64 {
			break
		}
		x.start(api.OK)
		x.state(n, 0, true)
		x.steps(n - 1)
		x.state(n, n-1, true)
		x.step(false)
		x.state(2*n, 0, false)
	}
}

// Promise 11.2: Start moves nothing: none has been moved, and the old table has all.
func TestStartMovesNothing(t *testing.T) {
	for _, n := range []int{8, 16, 32} {
		x := grownTo(t, "g", n)
		x.letters("abcdefghijklmnop")
		ahead := x.g.All()
		x.start(api.OK)
		x.state(n, 0, true)
		x.is(ahead...)
	}
}

// Promises 11.1 and 11.2: Find, Insert and Delete of keys of each bucket, at each number of buckets that have been moved: into its table, and out of it.
func TestEachKeyAtEachMoved(t *testing.T) {
	for _, n := range []int{8, 16} {
		for moved := range n {
			x := grownTo(t, "ggg", n)
			for bucket := range n {
				x.put(64*bucket, keysOf(bucket, n, 3)[0])
			}
			x.start(api.OK)
			x.steps(moved)
			for bucket := range n {
				keys := keysOf(bucket, n, 3)
				x.put(1024+64*bucket, keys[1])
				x.delete(keys[2], 0, api.ErrNone)
				x.delete(keys[0], 64*bucket, api.OK)
				x.delete(keys[0], 0, api.ErrNone)
				x.put(2048+64*bucket, keys[2])
				x.insert(64*bucket, api.OK)
				x.delete(keys[1], 1024+64*bucket, api.OK)
			}
			x.state(n, moved, true)
			x.steps(n - moved)
			for bucket := range n {
				x.delete(keysOf(bucket, n, 1)[0], 64*bucket, api.OK)
			}
		}
	}
}

// Promises 11.1 and 11.2: which table an Insert goes to, by a test's own words: of a bucket that has been moved the new one, behind all of the old one in All; else the old one.
func TestInsertGoesToItsTable(t *testing.T) {
	x := made(t, "g")
	x.start(api.OK)
	x.steps(5)
	x.put(0, "b")   // bucket 5: not yet
	x.put(64, "a")  // bucket 4: moved; of 16: 12
	x.put(128, "h") // bucket 7: not yet
	x.put(192, "i") // bucket 4: moved; of 16: 4
	x.put(256, "j") // bucket 5: not yet
	x.put(320, "q") // bucket 4: moved; of 16: 12
	x.is(256, 0, 128, 192, 320, 64)
	x.step(true)
	x.is(128, 192, 0, 320, 64, 256)
	x.put(384, "z") // bucket 5: moved; of 16: 13
	x.is(128, 192, 0, 320, 64, 384, 256)
	x.delete("j", 256, api.OK)
	x.delete("h", 128, api.OK)
	x.is(192, 0, 320, 64, 384)
	x.put(128, "p") // bucket 7: not yet
	x.put(256, "g") // bucket 6: not yet
	x.is(256, 128, 192, 0, 320, 64, 384)
	x.step(true)
	x.step(false)
	x.is(192, 0, 256, 320, 64, 384, 128)
}

// Promise 11.1: Insert of a key that is in already is ErrTwice, in the old table and in the new one, of the item itself and of another one; nothing changes.
func TestInsertTwice(t *testing.T) {
	for _, n := range []int{8, 16, 32} {
		x := grownTo(t, "gg", n)
		text := "abcdefghijklmnop"
		x.letters(text)
		twice := func() {
			t.Helper()
			for i := range len(text) {
				x.insert(64*i, api.ErrTwice)
				x.lay(1024, text[i:i+1])
				x.insert(1024, api.ErrTwice)
			}
		}
		twice()
		x.start(api.OK)
		for moved := range n {
			if moved%(n/8) == 0 {
				twice()
			}
			x.step(moved < n-1)
		}
		twice()
	}
}

// Promise 11.1: what came in while it grew, into either table, is in already, too, behind the Step that moved it.
func TestInsertTwiceOfWhatCameLater(t *testing.T) {
	for moved := range 8 {
		x := made(t, "gg")
		x.start(api.OK)
		x.steps(moved)
		x.letters("abcdefgh")
		for moved := moved; moved < 8; moved++ {
			for i, key := range []string{"a", "b", "c", "d", "e", "f", "g", "h"} {
				x.insert(64*i, api.ErrTwice)
				x.lay(1024, key)
				x.insert(1024, api.ErrTwice)
			}
			x.step(moved < 7)
		}
		for i, key := range []string{"a", "b", "c", "d", "e", "f", "g", "h"} {
			x.delete(key, 64*i, api.OK)
			x.lay(1024, key)
			x.insert(1024, api.OK)
			x.insert(64*i, api.ErrTwice)
			x.delete(key, 1024, api.OK)
		}
	}
}

// Promise 11.1: Insert's errors, two wrong things at once among them: what does not lie within a granted page is told ahead of what is no key, and that ahead of a key that is in; whatever table would be asked.
func TestInsertErrors(t *testing.T) {
	longest := strings.Repeat("k", 32)
	for _, c := range []struct {
		at   int
		n    byte
		text string
		e    api.Errno
		what string
	}{
		{64, 1, "m", api.OK, "a key"},
		{64, 32, longest, api.OK, "the longest key"},
		{64, 33, longest + "k", api.ErrField, "one longer"},
		{64, 0, "a", api.ErrField, "no bytes"},
		{64, 1, " ", api.ErrField, "a blank"},
		{64, 2, "a\x7f", api.ErrField, "a byte of 127"},
		{64, 1, "a", api.ErrTwice, "there, not moved"},
		{64, 1, "c", api.ErrTwice, "there, moved"},
		{983, 1, "a", api.ErrTwice, "there, not moved, and ends with its page"},
		{983, 1, "c", api.ErrTwice, "there, moved, and ends with its page"},
		{985, 1, "a", api.ErrRange, "half a header outside, of a key that is there, not moved"},
		{985, 1, "c", api.ErrRange, "half a header outside, of a key that is there, moved"},
		{985, 0, "a", api.ErrRange, "half a header outside, and no bytes"},
		{985, 33, longest + "k", api.ErrRange, "half a header outside, and too long"},
		{953, 32, longest, api.ErrRange, "a byte over its page"},
		{953, 33, longest + "k", api.ErrRange, "too long, and over its page"},
		{982, 3, "  a", api.ErrRange, "blanks, and over its page"},
		{1976, 33, longest, api.ErrRange, "too long, and over its page, behind which one is free"},
		{2020, 0, "", api.ErrRange, "no header, no bytes"},
	} {
		for moved := range 9 {
			x := made(t, "ggf")
			x.put(200, "a") // bucket 4
			x.put(300, "c") // bucket 2
			if moved > 0 {
				x.start(api.OK)
				x.steps(moved - 1)
			}
			if c.at+keyAt < 2048 {
				x.layBytes(c.at+keyAt, []byte{c.n})
				x.layBytes(c.at+header, []byte(c.text))
			}
			x.insert(c.at, c.e)
			if e := x.insertError(c.at); c.e == api.OK && e != api.ErrTwice {
				t.Errorf("%s: error %d behind it", c.what, e)
			}
		}
	}
}

// Promise 11.1: Insert of each address of arenas, of those near their ends and of those far away, at some numbers of buckets that have been moved: assoc's Key's error.
func TestInsertOfEachAddress(t *testing.T) {
	for _, pages := range []string{"g", "gf", "fg", "gg", "ff"} {
		for moved := range 9 {
			x := made(t, pages)
			for page, granted := range x.granted {
				if granted {
					x.layBytes(page*size, bytes.Repeat([]byte{byte(30 + moved)}, size))
				}
			}
			x.start(api.OK)
			x.steps(moved)
			addresses := slices.Clone(farAways)
			for at := -50; at <= len(x.bytes)+50; at++ {
				addresses = append(addresses, at)
			}
			for _, at := range addresses {
				want := x.insertError(at)
				if want == api.OK {
					continue
				}
				if _, e := assoc.Key(x.a, at); e != want {
					t.Fatalf("the test says error %d of Insert(%d), assoc's Key %d", want, at, e)
				}
				if e := x.g.Insert(at); e != want {
					t.Errorf("Insert(%d) in %s: error %d, not %d", at, pages, e, want)
				}
			}
			x.same("Insert of what is none")
		}
	}
}

// Promise 11.1: texts that are no keys are not found, nor taken out, whatever table their number leads to.
func TestNoKeys(t *testing.T) {
	x := made(t, "g")
	x.letters("abcdefghijklmnop")
	x.start(api.OK)
	for moved := range 8 {
		for _, key := range noKeys {
			x.found(key, "Step")
			x.delete(key, 0, api.ErrNone)
		}
		for v := range 256 {
			key := string([]byte{byte(v)})
			x.found(key, "Step")
			x.found("a"+key, "Step")
		}
		x.step(moved < 7)
	}
}

// Promises 11.1 and 11.3: keys of one number (FNV-1a) go to one bucket in each table, and are told apart.
func TestKeysOfOneNumber(t *testing.T) {
	pairs := [][2]string{{"costarring", "liquid"}, {"declinate", "macallums"}, {"altarage", "zinke"}}
	x := made(t, "g")
	for i, pair := range pairs {
		if bucketOf(pair[0], 1<<30) != bucketOf(pair[1], 1<<30) {
			t.Fatalf("%q and %q have not one number", pair[0], pair[1])
		}
		x.put(128*i, pair[0])
		x.put(128*i+64, pair[1])
	}
	for _, n := range []int{8, 16, 32} {
		x.start(api.OK)
		for moved := range n {
			for i, pair := range pairs {
				x.delete(pair[0], 128*i, api.OK)
				x.insert(128*i+64, api.ErrTwice)
				x.insert(128*i, api.OK)
			}
			x.step(moved < n-1)
		}
	}
}

// Promise 11.2: a bucket whose items were taken out ahead of its Step moves nothing; one whose items came while it grew moves these.
func TestBucketsChangeWhileItGrows(t *testing.T) {
	x := made(t, "gg")
	x.letters("abcdefghijklmnop")
	x.start(api.OK)
	x.steps(2)
	for i := range 16 {
		x.delete(string(rune('a'+i)), 64*i, api.OK)
	}
	x.is()
	x.state(8, 2, true)
	x.steps(3)
	x.letters("abcdefghijklmnop")
	x.steps(2)
	for i := range 8 {
		x.delete(string(rune('a'+2*i)), 128*i, api.OK)
	}
	x.step(false)
	x.is(13*64, 3*64, 64, 7*64, 5*64, 11*64, 9*64, 15*64)
}

// Promise 11.2: State and Len at each point of all its growing, by a test's own words.
func TestStateAndLen(t *testing.T) {
	x := made(t, strings.Repeat("g", 8))
	items := 0
	add := func() {
		t.Helper()
		x.put(64*items, fmt.Sprint(items))
		items++
	}
	add()
	for _, n := range []int{8, 16, 32} {
		x.state(n, 0, false)
		x.start(api.OK)
		for moved := range n {
			x.state(n, moved, true)
			add()
			x.state(n, moved, true)
			if l := x.g.Len(); l != items {
				t.Fatalf("Len of %d buckets, %d moved: %d, not %d", n, moved, l, items)
			}
			x.step(moved < n-1)
			if l := x.g.Len(); l != items {
				t.Fatalf("Len behind Step %d of %d: %d, not %d", moved, n, l, items)
			}
		}
		x.state(2*n, 0, false)
	}
	for items > 0 {
		items--
		x.delete(fmt.Sprint(items), 64*items, api.OK)
		if l := x.g.Len(); l != items {
			t.Fatalf("Len: %d, not %d", l, items)
		}
	}
	x.state(64, 0, false)
}

// Promise 11.2: a table that grew, and whose items were taken out, does not become less.
func TestItStaysGrown(t *testing.T) {
	x := grownTo(t, "g", 16)
	x.letters("abcdefgh")
	for i := range 8 {
		x.delete(string(rune('a'+i)), 64*i, api.OK)
	}
	x.state(16, 0, false)
	x.start(api.OK)
	x.steps(16)
	x.state(32, 0, false)
}

// Promises 11.1 and 11.2: two tables over one arena grow by themselves, and have nothing in common; what one let go of the other one takes.
func TestTwoTables(t *testing.T) {
	b := laid(t, "gg")
	x, y := b.more(), b.more()
	for i := range 8 {
		x.put(128*i, string(rune('a'+i)))
		y.put(128*i+64, string(rune('a'+i)))
	}
	x.start(api.OK)
	y.state(8, 0, false)
	y.step(false)
	x.steps(5)
	y.start(api.OK)
	y.steps(2)
	x.start(api.ErrState)
	for i := range 8 {
		key := string(rune('a' + i))
		x.insert(128*i+64, api.ErrTwice)
		x.delete(key, 128*i, api.OK)
		y.insert(128*i, api.ErrTwice)
		y.delete(key, 128*i+64, api.OK)
		x.insert(128*i+64, api.OK)
		y.insert(128*i, api.OK)
	}
	x.steps(3)
	x.state(16, 0, false)
	y.state(8, 2, true)
	y.steps(6)
	x.start(api.OK)
	y.start(api.OK)
	y.steps(16)
	x.steps(16)
}

// Promises 11.1 and 11.2: tables over two arenas have the same places and keys, and nothing in common.
func TestTwoArenas(t *testing.T) {
	one, other := made(t, "gg"), made(t, "gf")
	for i := range 8 {
		one.put(64*i, string(rune('a'+i)))
		other.same("Insert in another arena")
	}
	one.put(1024, "z")
	other.insert(1024, api.ErrRange)
	one.start(api.OK)
	one.steps(4)
	other.same("Step in another arena")
	other.state(8, 0, false)
	other.put(0, "b")
	other.start(api.OK)
	other.steps(8)
	one.same("Step in another arena")
	other.delete("b", 0, api.OK)
	one.delete("b", 64, api.OK)
	one.steps(4)
}

// Promise 11.1: a page may be granted later than the table was made, and given back while no item of it is in.
func TestPagesComeAndGo(t *testing.T) {
	x := made(t, "gf")
	x.put(0, "a")
	x.start(api.OK)
	for moved := range 8 {
		x.insert(1024, api.ErrRange)
		x.a.Grant(moved)
		x.granted[1] = true
		clear(x.bytes[size:])
		x.insert(1024, api.ErrField)
		x.put(1024, "b")
		x.put(1088, "c")
		x.step(moved < 7)
		x.delete("c", 1088, api.OK)
		x.delete("b", 1024, api.OK)
		x.a.Return(1)
		x.granted[1] = false
		x.same("Return")
	}
}

// Promises 11.1 and 11.2: items as layer 8 lays them stay what they were, but for FNext, however far it grows.
func TestItemsStay(t *testing.T) {
	sizes := []int{64, 128, 1024}
	a, _ := arena.New(3)
	for range 3 {
		a.Grant(0)
	}
	g := New(a)
	var places []int
	var items []item.Item
	add := func(v item.Item, list ...int) {
		t.Helper()
		if e := item.Write(a, sizes, list, v); e != api.OK {
			t.Fatalf("the item at %v: error %d", list, e)
		}
		if e := g.Insert(list[0]); e != api.OK {
			t.Fatalf("Insert(%d): error %d", list[0], e)
		}
		places, items = append(places, list[0]), append(items, v)
	}
	for i := range 7 {
		add(item.Item{Key: strings.Repeat(string(rune('a'+i)), 4*i+1), Value: strings.Repeat("v", 5*i), Flags: uint32(i) << 28, Exp: math.MaxUint32 - uint32(i), Cas: math.MaxUint64 - uint64(i)}, i*128)
	}
	add(item.Item{Key: "long", Value: strings.Repeat("w", 1500), Cas: 1}, 1024, 2048)
	for range 3 {
		g.Start()
		for on := true; on; {
			on = g.Step()
			for i, at := range places {
				if got, e := item.Read(a, sizes, at); got != items[i] || e != api.OK {
					t.Fatalf("the item at %d behind Step: %v, error %d", at, got, e)
				}
				if got, ok := g.Find(items[i].Key); got != at || !ok {
					t.Fatalf("Find(%q) behind Step: %d, %t", items[i].Key, got, ok)
				}
			}
		}
	}
	for i, at := range places {
		if got, e := g.Delete(items[i].Key); got != at || e != api.OK {
			t.Errorf("Delete(%q): %d, error %d", items[i].Key, got, e)
		}
	}
	if n := g.Len(); n != 0 {
		t.Errorf("%d items are left", n)
	}
}

// Promise 11.1: what FNext said ahead of an Insert is nothing: a place, none, or four bytes that are no place.
func TestInsertAsksNotForNext(t *testing.T) {
	for _, next := range [][]byte{{255, 255, 255, 255}, {0, 0, 0, 128}, {254, 255, 255, 255}, {0, 0, 0, 0}, {64, 0, 0, 0}, {255, 255, 255, 127}} {
		x := made(t, "g")
		x.start(api.OK)
		x.steps(4)
		for i := range 16 {
			x.layBytes(64*i, next)
			x.put(64*i, string(rune('a'+i)))
		}
		x.steps(4)
		for i := range 16 {
			x.delete(string(rune('a'+i)), 64*i, api.OK)
		}
	}
}

// Rule R4: a list that is handed out is its asker's alone: what he writes into it, and behind its end, is in no other, nor in the table.
func TestListsAreHandedOut(t *testing.T) {
	for moved := range 9 {
		x := made(t, "g")
		x.letters("abcdefghijklmnop")
		x.start(api.OK)
		x.steps(moved)
		want := slices.Clone(x.all())
		first, second := x.g.All(), x.g.All()
		first = first[:cap(first)]
		for i := range first {
			first[i] = 5
		}
		if !slices.Equal(second, want) {
			t.Errorf("two answers share memory: %v, not %v", second, want)
		}
		x.same("a change of a list that was handed out")
		x.steps(min(8-moved, 1))
		x.delete("a", 0, api.OK)
		if !slices.Equal(second, want) {
			t.Errorf("a list that was handed out goes with the table: %v", second)
		}
	}
}

// Promises 11.1 and 11.2: what is asked changes nothing, however often it is asked.
func TestAskingChangesNothing(t *testing.T) {
	x := made(t, "g")
	x.letters("abcdefghijklmnop")
	x.start(api.OK)
	for moved := range 8 {
		for range 20 {
			x.same("questions")
		}
		x.step(moved < 7)
	}
}

// Promise 11.3: what is found does not hang on whether the table grows, and how far: the same calls, with Starts and Steps at other times among them, have the same answers.
func TestAnswersDoNotHangOnGrowing(t *testing.T) {
	schedules := map[string]func(i int, g *Grow){
		"from its beginning": func(i int, g *Grow) {
			g.Start()
			g.Step()
		},
		"whole, at once": func(i int, g *Grow) {
			for g.Start() == api.OK {
				for g.Step() {
				}
			}
		},
		"now and then": func(i int, g *Grow) {
			if i%40 == 0 {
				g.Start()
			}
			if i%7 == 0 {
				g.Step()
			}
		},
		"begun, not gone on with": func(i int, g *Grow) {
			g.Start()
		},
		"three have been moved": func(i int, g *Grow) {
			g.Start()
			if _, moved, _ := g.State(); moved < 3 {
				g.Step()
			}
		},
		"the last one is left": func(i int, g *Grow) {
			g.Start()
			if n, moved, _ := g.State(); moved < n-1 {
				g.Step()
			}
		},
		"late": func(i int, g *Grow) {
			if i > 300 {
				g.Start()
				g.Step()
			}
		},
	}
	for seed := range uint64(6) {
		want := answers(t, seed, func(int, *Grow) {})
		for name, schedule := range schedules {
			got := answers(t, seed, schedule)
			for i := range want {
				if got[i] != want[i] {
					t.Fatalf("a table that grows %s: call %d answers %s, not %s", name, i, got[i], want[i])
				}
			}
		}
	}
}

// answers are what 600 calls without order answer, with some Starts and Steps ahead of each, and what is found behind each.
func answers(t *testing.T, seed uint64, grows func(i int, g *Grow)) []string {
	b := laid(t, "gfg")
	g := New(b.a)
	var list []string
	dice := noise(seed, 3*600)
	for i := range 600 {
		grows(i, g)
		d := dice[3*i:]
		key := keysOf(int(d[1])%8, 8, 4)[d[1]/64]
		at := int(d[2]) % 50 * 64
		told := ""
		if d[0]%5 < 3 {
			if b.within(at, 64) && !slices.Contains(g.All(), at) {
				b.a.SetNumber(at+keyAt, 1, uint64(len(key)))
				b.a.Write(at+header, []byte(key))
			}
			told = fmt.Sprint("Insert ", at, g.Insert(at))
		} else {
			place, e := g.Delete(key)
			told = fmt.Sprint("Delete ", key, place, e)
		}
		all := g.All()
		slices.Sort(all)
		place, ok := g.Find(key)
		list = append(list, fmt.Sprint(told, place, ok, g.Len(), all))
	}
	return list
}

// Promise 11.3: n Steps, and it has grown; each but the last one is true.
func TestItHasGrown(t *testing.T) {
	for _, items := range []int{0, 1, 40, 200} {
		x := made(t, strings.Repeat("g", 1+items/16))
		for i := range items {
			x.lay(64*i, fmt.Sprint(i))
			if e := x.g.Insert(64 * i); e != api.OK {
				t.Fatalf("Insert %d: error %d", i, e)
			}
		}
		for _, n := range []int{8, 16, 32} {
			if e := x.g.Start(); e != api.OK {
				t.Fatalf("Start: error %d", e)
			}
			steps := 1
			for x.g.Step() {
				if _, moved, on := x.g.State(); moved != steps || !on {
					t.Errorf("%d Steps have moved %d, %t", steps, moved, on)
				}
				steps++
			}
			if steps != n {
				t.Errorf("%d buckets have grown by %d Steps", n, steps)
			}
			x.state(2*n, 0, false)
		}
	}
}

// Promises 11.2 and 11.3: in an arena of all pages that there may be, as many items as go into it: all are found at each point, and in the buckets that they must be in.
func TestAllPages(t *testing.T) {
	x := made(t, strings.Repeat("g", 32))
	x.tables = nil
	var places []int
	for page := range 32 {
		for i := range 24 {
			places = append(places, page*size+i*42)
		}
	}
	key := func(i int) string { return string([]byte{byte(33 + i/90), byte(33 + i%90)}) }
	for i, at := range places {
		x.put(at, key(i))
	}
	for _, n := range []int{8, 16, 32} {
		x.start(api.OK)
		for moved := range n {
			x.step(moved < n-1)
			if list := x.g.All(); !slices.Equal(list, x.all()) || len(list) != 768 || x.g.Len() != 768 {
				t.Fatalf("All of %d buckets, %d moved: %d items, or others", n, moved, len(list))
			}
			for i, at := range places {
				if got, ok := x.g.Find(key(i)); got != at || !ok {
					t.Fatalf("Find(%q): %d, %t", key(i), got, ok)
				}
			}
		}
	}
	x.tables = []*table{x}
	x.same("all Steps")
	for bucket, list := range x.old {
		for _, at := range list {
			has, _ := assoc.Key(x.a, at)
			if bucketOf(has, 64) != bucket {
				t.Errorf("%q is in bucket %d", has, bucket)
			}
		}
	}
}

// Promises 11.1 to 11.3: calls without order, right ones and wrong ones, of one or two tables over one arena.
func TestManyCalls(t *testing.T) {
	for seed := range 60 {
		b := laid(t, []string{"gg", "gfg", "fggf", "g", "gggg"}[seed%5])
		for range 1 + seed%2 {
			b.more()
		}
		dice := noise(uint64(seed)+100, 4*400)
		for ; len(dice) > 0; dice = dice[4:] {
			b.someCall(dice[:4])
		}
	}
}

// someCall does the call that four bytes without order tell; each of a page's chunks is of one table alone.
func (b *ground) someCall(dice []byte) {
	b.t.Helper()
	n := int(dice[1]) % len(b.tables)
	x := b.tables[n]
	chunk := int(dice[2]) % (len(b.granted) * 16)
	at := (chunk - chunk%len(b.tables) + n) % (len(b.granted) * 16) * 64
	key := string(rune('a' + int(dice[3])%24))
	switch dice[0] % 8 {
	case 0, 1, 2:
		if b.granted[at/size] && !slices.Contains(x.all(), at) {
			if dice[0] >= 232 {
				key = noKeys[int(dice[3])%14]
			}
			b.lay(at, key)
		}
		if dice[0] >= 244 {
			at = farAways[int(dice[3])%len(farAways)]
		}
		x.insert(at, x.insertError(at))
	case 3, 4:
		if dice[0] >= 232 {
			key = noKeys[int(dice[3])%len(noKeys)]
		}
		if place, ok := x.find(key); ok {
			x.delete(key, place, api.OK)
		} else {
			x.delete(key, 0, api.ErrNone)
		}
	case 5, 6:
		x.step(x.new != nil && x.moved+1 < len(x.old))
	case 7:
		switch {
		case x.new != nil:
			x.start(api.ErrState)
		case len(x.old) == 64:
			x.start(api.ErrFull)
		default:
			x.start(api.OK)
		}
	}
}

// Rule R1: all calls end, and none panics, also where somebody else changed FNext or the keys of items, or gave their page back.
func TestCallsEnd(t *testing.T) {
	start := func(moved int) *table {
		x := made(t, "gg")
		for i, at := range []int{0, 64, 128, 983, 1024} {
			x.put(at, string([]byte{"aiqyb"[i]}))
		}
		x.start(api.OK)
		x.steps(moved)
		return x
	}
	all := func(x *table) {
		for range 20 {
			for _, at := range append([]int{0, 32, 64, 128, 983, 1024, 2048}, farAways...) {
				x.g.Insert(at)
			}
			for _, key := range append(noKeys, "a", "i", "b") {
				x.g.Find(key)
			}
			x.g.Delete("q")
			x.g.Len()
			x.g.All()
			x.g.State()
			x.g.Step()
			x.g.Start()
		}
	}
	for moved := range 8 {
		for _, spoilt := range []int{0, 64, 128, 983, 1024} {
			for _, v := range []int{-1, 0, 64, 983, 1023, 2048, math.MaxInt32} {
				x := start(moved)
				x.a.SetPlace(spoilt, v)
				all(x)
			}
			for _, v := range []uint64{0, 2, 33, 255} {
				x := start(moved)
				x.a.SetNumber(spoilt+keyAt, 1, v)
				all(x)
			}
		}
		for page := range 2 {
			x := start(moved)
			x.a.Return(page)
			all(x)
			x.a.Return(1 - page)
			all(x)
			x.a.Grant(0)
			all(x)
		}
	}
}
