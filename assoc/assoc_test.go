package assoc

import (
	"bytes"
	"fmt"
	"hash/fnv"
	"math"
	"slices"
	"strings"
	"testing"

	"tallboy/api"
	"tallboy/arena"
	"tallboy/item"
)

// size is how many bytes a page has.
const size = 1024

// header is how many bytes an item's header has; in them its key's length, and where the item behind it in its bucket begins.
const (
	header = 40
	keyAt  = 34
	nextAt = 0
)

// far is a whole number beyond all that an arena has, whose lowest 32 bits are 0.
const far = 1 << 32

// farAways are addresses in no arena; some have a right one as their lowest bits.
var farAways = []int{-1, -2, -3, -34, -39, -40, -41, -64, -1020, -1023, -1024, -1025, -2048, math.MinInt32, -far, -far + 64, math.MinInt, math.MinInt + 1, math.MinInt + 64,
	32 * size, 32*size + 64, 33 * size, 1 << 16, math.MaxInt32, 1 << 31, far - 1, far, far + 64, far + 1024, 1 << 62, math.MaxInt, math.MaxInt - 1, math.MaxInt - 3,
	math.MaxInt - 34, math.MaxInt - 38, math.MaxInt - 39, math.MaxInt - 40, math.MaxInt - 41, math.MaxInt - 63, math.MaxInt - 1023, math.MaxInt - 1024}

// allSizes are all numbers of buckets that there may be.
var allSizes = []int{1, 2, 4, 8, 16, 32, 64}

// noKeys are texts that are none.
var noKeys = []string{"", " ", "a b", " a", "a ", "a\n", "\x00", "a\x00", "\x1f", "\x7f", "a\x7f", "\x80", "\xff", "é", "日本", strings.Repeat("k", 33), strings.Repeat("k", 1<<16)}

// both are tables over one arena, and what they must be: each table's buckets with their items in order, and all bytes.
type both struct {
	t       *testing.T
	a       *arena.Arena
	granted []bool
	bytes   []byte
	tables  []*Table
	lists   [][][]int
}

// made are tables of so many buckets, without items, over an arena with a page for each sign, g: granted, with bytes without order, f: free.
func made(t *testing.T, pages string, buckets ...int) *both {
	t.Helper()
	a, e := arena.New(len(pages))
	if e != api.OK {
		t.Fatalf("an arena of %d pages: error %d", len(pages), e)
	}
	b := &both{t: t, a: a, granted: make([]bool, len(pages)), bytes: noise(uint64(len(pages)), len(pages)*size)}
	for page := range pages {
		a.Grant(page % 8)
		a.Write(page*size, b.bytes[page*size:(page+1)*size])
	}
	for page, sign := range pages {
		b.granted[page] = sign == 'g'
		if sign == 'f' {
			a.Return(page)
		}
	}
	for _, n := range buckets {
		b.more(n)
	}
	return b
}

// more makes one more table.
func (b *both) more(buckets int) {
	b.t.Helper()
	table, e := New(b.a, buckets)
	if e != api.OK || table == nil {
		b.t.Fatalf("New of %d buckets: error %d", buckets, e)
	}
	b.tables = append(b.tables, table)
	b.lists = append(b.lists, make([][]int, buckets))
	b.same("New")
}

// noise is n bytes without order, others for each seed.
func noise(seed uint64, n int) []byte {
	v := 88172645463325252 + seed*0x9E3779B97F4A7C15
	b := make([]byte, n)
	for i := range b {
		v ^= v << 13
		v ^= v >> 7
		v ^= v << 17
		b[i] = byte(v >> 24)
	}
	return b
}

// lay lays a key's length and its bytes where an item begins; the header's other bytes stay without order.
func (b *both) lay(at int, key string) {
	b.t.Helper()
	b.layBytes(at+keyAt, []byte{byte(len(key))})
	b.layBytes(at+header, []byte(key))
}

// layBytes lays bytes into the arena, and into what must be there, page by page.
func (b *both) layBytes(at int, list []byte) {
	b.t.Helper()
	for i, v := range list {
		if e := b.a.Write(at+i, []byte{v}); e != api.OK {
			b.t.Fatalf("the test writes to %d: error %d", at+i, e)
		}
		b.bytes[at+i] = v
	}
}

// layNext lays what an item's FNext must say into the bytes that must be there, the lowest byte first.
func (b *both) layNext(at, next int) {
	for i := range 4 {
		b.bytes[at+nextAt+i] = byte(next >> (8 * i))
	}
}

// within tells by the document's words whether n bytes lie within a granted page.
func (b *both) within(at, n int) bool {
	if at < 0 || at >= len(b.bytes) || !b.granted[at/size] {
		return false
	}
	for i := range n {
		if (at+i)/size != at/size {
			return false
		}
	}
	return true
}

// keyOf is what Key must answer.
func (b *both) keyOf(at int) (string, api.Errno) {
	if !b.within(at, header) {
		return "", api.ErrRange
	}
	n := int(b.bytes[at+keyAt])
	if !b.within(at+header, n) {
		return "", api.ErrRange
	}
	key := string(b.bytes[at+header : at+header+n])
	if !isKey(key) {
		return "", api.ErrField
	}
	return key, api.OK
}

// isKey tells by the document's words whether a text is a key.
func isKey(key string) bool {
	for _, v := range []byte(key) {
		if v < 33 || v > 126 {
			return false
		}
	}
	return len(key) >= 1 && len(key) <= 32
}

// bucketOf is a key's bucket of n, by the library's FNV-1a.
func bucketOf(key string, n int) int {
	h := fnv.New32a()
	h.Write([]byte(key))
	return int(h.Sum32() % uint32(n))
}

// find is what Find must answer: all items of a table are gone through, whatever their buckets are.
func (b *both) find(n int, key string) (int, bool) {
	for _, list := range b.lists[n] {
		for _, at := range list {
			if has, e := b.keyOf(at); e == api.OK && has == key {
				return at, true
			}
		}
	}
	return 0, false
}

// insertError is what Insert must answer.
func (b *both) insertError(n, at int) api.Errno {
	key, e := b.keyOf(at)
	if e != api.OK {
		return e
	}
	if _, ok := b.find(n, key); ok {
		return api.ErrTwice
	}
	return api.OK
}

// insert does an Insert, whose error the test names, and holds all against what it must be.
func (b *both) insert(n, at int, e api.Errno) {
	b.t.Helper()
	if want := b.insertError(n, at); want != e {
		b.t.Fatalf("the test says error %d of Insert(%d), the document %d", e, at, want)
	}
	if got := b.tables[n].Insert(at); got != e {
		b.t.Fatalf("Insert(%d) into %v: error %d, not %d", at, b.lists[n], got, e)
	}
	if e == api.OK {
		key, _ := b.keyOf(at)
		bucket := bucketOf(key, len(b.lists[n]))
		b.now(n, bucket, slices.Insert(slices.Clone(b.lists[n][bucket]), 0, at))
	}
	b.same("Insert")
}

// put lays a key where an item begins, and does an Insert of it that must be right.
func (b *both) put(n, at int, key string) {
	b.t.Helper()
	b.lay(at, key)
	b.insert(n, at, api.OK)
}

// delete does a Delete, whose place or error the test names, and holds all against what it must be.
func (b *both) delete(n int, key string, at int, e api.Errno) {
	b.t.Helper()
	want, ok := b.find(n, key)
	if want != at || ok != (e == api.OK) {
		b.t.Fatalf("the test says %d, error %d, of Delete(%q), the document %d, %t", at, e, key, want, ok)
	}
	if got, has := b.tables[n].Delete(key); got != at || has != e {
		b.t.Fatalf("Delete(%q) from %v: %d, error %d, not %d, error %d", key, b.lists[n], got, has, at, e)
	}
	if e == api.OK {
		bucket := bucketOf(key, len(b.lists[n]))
		b.layNext(at, -1)
		b.now(n, bucket, slices.DeleteFunc(slices.Clone(b.lists[n][bucket]), func(other int) bool { return other == at }))
	}
	b.same("Delete")
}

// empty does an Empty, and holds all against what it must be.
func (b *both) empty(n, bucket int) {
	b.t.Helper()
	var want []int
	e := api.ErrRange
	if bucket >= 0 && bucket < len(b.lists[n]) {
		want, e = b.lists[n][bucket], api.OK
	}
	list, got := b.tables[n].Empty(bucket)
	if !slices.Equal(list, want) || got != e {
		b.t.Fatalf("Empty(%d): %v, error %d, not %v, error %d", bucket, list, got, want, e)
	}
	for _, at := range want {
		b.layNext(at, -1)
	}
	if e == api.OK {
		b.lists[n][bucket] = nil
	}
	b.same("Empty")
}

// now lays what a bucket's items must be, and what their FNext must say.
func (b *both) now(n, bucket int, list []int) {
	b.lists[n][bucket] = list
	for i, at := range list {
		next := -1
		if i+1 < len(list) {
			next = list[i+1]
		}
		b.layNext(at, next)
	}
}

// same holds the arena's bytes, and all that the tables tell, against what they must be.
func (b *both) same(after string) {
	b.t.Helper()
	for page, granted := range b.granted {
		got, e := b.a.Read(page*size, size)
		if (e == api.OK) != granted || granted && !bytes.Equal(got, b.bytes[page*size:(page+1)*size]) {
			b.t.Fatalf("page %d behind %s: error %d, or other bytes", page, after, e)
		}
	}
	for n := range b.lists {
		b.told(n, after)
	}
}

// told holds what a table tells against what it must tell.
func (b *both) told(n int, after string) {
	b.t.Helper()
	all := 0
	for bucket, want := range b.lists[n] {
		all += len(want)
		if list, e := b.tables[n].Bucket(bucket); !slices.Equal(list, want) || e != api.OK {
			b.t.Fatalf("Bucket(%d) behind %s: %v, error %d, not %v", bucket, after, list, e, want)
		}
		for _, at := range want {
			key, _ := b.keyOf(at)
			b.found(n, key, after)
			b.found(n, key+"x", after)
			b.found(n, key[1:], after)
		}
	}
	if buckets, items := b.tables[n].Size(); buckets != len(b.lists[n]) || items != all {
		b.t.Fatalf("Size behind %s: %d, %d, not %d, %d", after, buckets, items, len(b.lists[n]), all)
	}
	for _, bucket := range []int{-1, len(b.lists[n]), math.MinInt, math.MaxInt, far, -far} {
		if list, e := b.tables[n].Bucket(bucket); len(list) != 0 || e != api.ErrRange {
			b.t.Fatalf("Bucket(%d) behind %s: %v, error %d", bucket, after, list, e)
		}
	}
	for _, key := range []string{"", "nobody's", "a b", "k\x80"} {
		b.found(n, key, after)
	}
}

// found holds Find against what it must answer.
func (b *both) found(n int, key, after string) {
	b.t.Helper()
	want, there := b.find(n, key)
	if at, ok := b.tables[n].Find(key); at != want || ok != there {
		b.t.Fatalf("Find(%q) behind %s: %d, %t, not %d, %t", key, after, at, ok, want, there)
	}
}

// is tells what a bucket's items are to be, so that a test's own words stand beside what is reckoned.
func (b *both) is(n, bucket int, want ...int) {
	b.t.Helper()
	if list, e := b.tables[n].Bucket(bucket); !slices.Equal(list, want) || e != api.OK || !slices.Equal(b.lists[n][bucket], want) {
		b.t.Fatalf("bucket %d is %v, error %d, not %v", bucket, list, e, want)
	}
}

// next tells what an item's FNext is to be.
func (b *both) next(at, want int) {
	b.t.Helper()
	if v, e := b.a.Place(at + nextAt); v != want || e != api.OK {
		b.t.Fatalf("FNext of %d: %d, error %d, not %d", at, v, e, want)
	}
}

// keysOf are n keys of one bucket.
func keysOf(bucket, buckets, n int) []string {
	var list []string
	for i := 0; len(list) < n; i++ {
		if key := fmt.Sprint("k", i); bucketOf(key, buckets) == bucket {
			list = append(list, key)
		}
	}
	return list
}

// chain is a table of so many buckets, with n items in one of them: their places and their keys, in order.
// In the arena's last page there is none of them.
func chain(t *testing.T, buckets, bucket, n int) (*both, []int, []string) {
	t.Helper()
	b := made(t, strings.Repeat("g", 1+(n+15)/16), buckets)
	keys := keysOf(bucket, buckets, n)
	places := spots(n)
	for i, at := range slices.Backward(places) {
		b.put(0, at, keys[i])
	}
	b.is(0, bucket, places...)
	return b, places, keys
}

// spare is where an item may begin of which a chain's have no byte.
func (b *both) spare() int { return len(b.bytes) - 100 }

// spots are n places of chunks of 64 bytes, of so many pages as they take, without order.
func spots(n int) []int {
	list := make([]int, (n+15)/16*16)
	for i, v := range noise(uint64(n), len(list)) {
		j := int(v) % (i + 1)
		list[i] = list[j]
		list[j] = i * 64
	}
	return list[:n]
}

// Promises 10.1 and 10.2: the chapter's example.
func TestExample(t *testing.T) {
	a, _ := arena.New(1)
	a.Grant(0)
	for i, key := range []string{"a", "b"} {
		if e := item.Write(a, []int{64, 1024}, []int{64 * i}, item.Item{Key: key}); e != api.OK {
			t.Fatalf("the item %q: error %d", key, e)
		}
	}
	x, e := New(a, 1)
	if e != api.OK {
		t.Fatalf("New(1): error %d", e)
	}
	for _, at := range []int{0, 64} {
		if e := x.Insert(at); e != api.OK {
			t.Errorf("Insert(%d): error %d", at, e)
		}
	}
	if list, e := x.Bucket(0); !slices.Equal(list, []int{64, 0}) || e != api.OK {
		t.Errorf("behind two Inserts: %v, error %d", list, e)
	}
	if at, e := x.Delete("b"); at != 64 || e != api.OK {
		t.Errorf("Delete of b: %d, error %d", at, e)
	}
	if list, e := x.Bucket(0); !slices.Equal(list, []int{0}) || e != api.OK {
		t.Errorf("behind Delete of b: %v, error %d", list, e)
	}
}

// Promise 10.1: of all numbers of buckets around those that there may be, and of those at their type's ends, New takes the powers of two from 1 to 64.
func TestNew(t *testing.T) {
	a, _ := arena.New(1)
	numbers := []int{math.MinInt, math.MinInt + 1, math.MinInt32, -far, -far + 8, math.MaxInt, math.MaxInt - 1, math.MaxInt32, 1 << 31, 1 << 62, far, far + 1, far + 8, far + 64, 256, 512, 1024}
	for n := -140; n <= 140; n++ {
		numbers = append(numbers, n)
	}
	for _, n := range numbers {
		table, e := New(a, n)
		if !slices.Contains(allSizes, n) {
			if table != nil || e != api.ErrRange {
				t.Errorf("New(%d): %v, error %d", n, table, e)
			}
			continue
		}
		if table == nil || e != api.OK {
			t.Fatalf("New(%d): %v, error %d", n, table, e)
		}
		if buckets, items := table.Size(); buckets != n || items != 0 {
			t.Errorf("New(%d) has %d buckets, and %d items", n, buckets, items)
		}
		for i := range n {
			if list, e := table.Bucket(i); len(list) != 0 || e != api.OK {
				t.Errorf("New(%d): bucket %d is %v, error %d", n, i, list, e)
			}
		}
	}
}

// Promise 10.1: a new table asks nothing of the arena, and lays nothing into it: free pages, and headers that look as if they were in a table.
func TestNewOverWhatIsThere(t *testing.T) {
	for _, pages := range []string{"g", "f", "gf", "ff", "ggg"} {
		made(t, pages, allSizes...)
	}
	b, _, keys := chain(t, 8, 3, 5)
	b.more(8)
	b.more(1)
	for n := 1; n <= 2; n++ {
		for _, key := range keys {
			b.delete(n, key, 0, api.ErrNone)
		}
		b.empty(n, 0)
	}
}

// Promise 10.1: Key of each address of arenas, of those near their ends and of those far away, whatever lies there.
func TestKeyOfEachAddress(t *testing.T) {
	for _, pages := range []string{"g", "f", "gf", "fg", "gg", "gfg", "fgf"} {
		for _, fill := range []byte{0, 1, 33, 65, 126, 127, 255} {
			b := made(t, pages)
			for page, granted := range b.granted {
				if granted {
					b.layBytes(page*size, bytes.Repeat([]byte{fill}, size))
				}
			}
			b.keys(pages)
		}
		made(t, pages).keys(pages)
	}
}

// keys holds Key of each address against what it must be.
func (b *both) keys(what string) {
	b.t.Helper()
	addresses := slices.Clone(farAways)
	for at := -size - 50; at <= len(b.bytes)+size+50; at++ {
		addresses = append(addresses, at)
	}
	for _, at := range addresses {
		b.key(at, what)
	}
	b.same("Key")
}

// key holds Key of an address against what it must be.
func (b *both) key(at int, what string) {
	b.t.Helper()
	want, we := b.keyOf(at)
	if key, e := Key(b.a, at); key != want || e != we {
		b.t.Fatalf("Key(%d) in %s: %q, error %d, not %q, error %d", at, what, key, e, want, we)
	}
}

// Promise 10.1: Key of each length that its byte may tell, in the midst of a page and at each place near its end.
func TestKeyOfEachLength(t *testing.T) {
	for _, pages := range []string{"g", "gf", "gg", "fg"} {
		from := strings.Index(pages, "g") * size
		for n := range 256 {
			b := made(t, pages)
			for page, granted := range b.granted {
				if granted {
					b.layBytes(page*size, bytes.Repeat([]byte{byte(n)}, size))
				}
			}
			for _, at := range []int{0, 100, 700, 728, 729, 730, 944, 950, 951, 952, 953, 982, 983, 984, 985} {
				b.key(from+at, fmt.Sprintf("%s, %d bytes", pages, n))
				if at+header+n > size {
					continue
				}
				key := strings.Repeat("k", n)
				b.lay(from+at, key)
				got, e := Key(b.a, from+at)
				if right := n >= 1 && n <= 32; right && (got != key || e != api.OK) || !right && (got != "" || e == api.OK) {
					t.Errorf("Key of %d bytes at %d: %q, error %d", n, from+at, got, e)
				}
				b.layBytes(from+at, bytes.Repeat([]byte{byte(n)}, min(header+n, size-at)))
			}
		}
	}
}

// Promise 10.1: each byte at each place of keys of one byte, of some and of the longest.
func TestKeyOfEachByte(t *testing.T) {
	b := made(t, "g")
	for _, n := range []int{1, 2, 3, 17, 31, 32} {
		for i := range n {
			for v := range 256 {
				key := []byte(strings.Repeat("k", n))
				key[i] = byte(v)
				b.lay(64, string(key))
				got, e := Key(b.a, 64)
				if v >= 33 && v <= 126 {
					if got != string(key) || e != api.OK {
						t.Errorf("Key of %q: %q, error %d", key, got, e)
					}
				} else if got != "" || e != api.ErrField {
					t.Errorf("Key of %q: %q, error %d", key, got, e)
				}
			}
		}
	}
}

// Promise 10.1: the edges of Key by a test's own words, two wrong things at once among them: what does not lie within a granted page is told ahead of what is no key.
func TestKeyEdges(t *testing.T) {
	longest := strings.Repeat("k", 32)
	for _, c := range []struct {
		pages string
		at    int
		n     byte
		text  string
		key   string
		e     api.Errno
		what  string
	}{
		{"g", 64, 1, "a", "a", api.OK, "one byte"},
		{"g", 0, 3, "abc", "abc", api.OK, "place nought"},
		{"g", 64, 2, "abc", "ab", api.OK, "as long as it says"},
		{"g", 64, 32, longest, longest, api.OK, "the longest"},
		{"g", 64, 33, longest + "k", "", api.ErrField, "one longer"},
		{"g", 64, 255, strings.Repeat("k", 255), "", api.ErrField, "the longest that the byte tells"},
		{"g", 64, 0, "abc", "", api.ErrField, "no bytes"},
		{"g", 64, 3, "a b", "", api.ErrField, "a blank"},
		{"g", 64, 1, " ", "", api.ErrField, "a blank alone"},
		{"g", 64, 3, "a\tb", "", api.ErrField, "a control byte"},
		{"g", 64, 3, "ab\x00", "", api.ErrField, "a byte of 0"},
		{"g", 64, 3, "\x7fab", "", api.ErrField, "a byte of 127"},
		{"g", 64, 3, "ab\xff", "", api.ErrField, "a byte of 255"},
		{"g", 64, 2, "!~", "!~", api.OK, "the least byte and the greatest one"},
		{"g", 983, 1, "a", "a", api.OK, "ends with its page"},
		{"g", 952, 32, longest, longest, api.OK, "the longest, ends with its page"},
		{"gg", 2007, 1, "a", "a", api.OK, "ends with the last page"},
		{"g", 953, 32, longest[1:], "", api.ErrRange, "a byte over its page, the last one"},
		{"gg", 953, 32, longest, "", api.ErrRange, "a byte over its page, into a granted one"},
		{"gf", 953, 32, longest[1:], "", api.ErrRange, "a byte over its page, into a free one"},
		{"gg", 983, 2, "ab", "", api.ErrRange, "two bytes, the last one over"},
		{"gg", 951, 33, longest + "k", "", api.ErrField, "too long, ends with its page"},
		{"gg", 952, 33, longest + "k", "", api.ErrRange, "too long, and over its page"},
		{"gg", 982, 3, "  k", "", api.ErrRange, "blanks, and over its page"},
		{"g", 983, 255, "\n", "", api.ErrRange, "too long, a control byte, and over its page"},
		{"gg", 984, 3, "abc", "abc", api.OK, "the header ends with its page, the key lies in the next one"},
		{"gg", 984, 32, longest, longest, api.OK, "the longest, all in the next page"},
		{"gg", 984, 33, longest + "k", "", api.ErrField, "too long, all in the next page"},
		{"gg", 984, 3, "a b", "", api.ErrField, "a blank, in the next page"},
		{"gf", 984, 3, "", "", api.ErrRange, "the next page is free"},
		{"g", 984, 1, "", "", api.ErrRange, "there is no next page"},
		{"gg", 984, 0, "", "", api.ErrField, "no bytes, at a granted page's beginning"},
		{"gf", 984, 0, "", "", api.ErrRange, "no bytes, at a free page's beginning"},
		{"g", 984, 0, "", "", api.ErrRange, "no bytes, behind the last page"},
	} {
		b := made(t, c.pages)
		b.layBytes(c.at+keyAt, []byte{c.n})
		b.layBytes(c.at+header, []byte(c.text))
		if key, e := Key(b.a, c.at); key != c.key || e != c.e {
			t.Errorf("Key(%d) in %s (%s): %q, error %d, not %q, error %d", c.at, c.pages, c.what, key, e, c.key, c.e)
		}
		b.key(c.at, c.what)
		b.more(4)
		b.insert(0, c.at, c.e)
	}
}

// Promises 10.1 and 10.2: Key and Insert where no header is: its last byte alone outside, below nought, in a free page, behind the last page.
func TestWhereNoHeaderIs(t *testing.T) {
	for _, c := range []struct {
		pages string
		at    int
	}{
		{"g", 985}, {"gg", 985}, {"gf", 985}, {"gg", 2009}, {"g", 1023}, {"g", 1024}, {"g", 1088}, {"gf", 1024}, {"gf", 1088}, {"fg", 0}, {"fg", 64}, {"fg", 984}, {"fg", 985},
		{"fg", 1023}, {"gfg", 1500}, {"gfg", 2047}, {"f", 0}, {"g", -1}, {"g", -40}, {"gg", -1024}, {"gg", 2048}, {"gg", 3072},
	} {
		b := made(t, c.pages, 8)
		// A key could be where one is looked for.
		for page, granted := range b.granted {
			if granted {
				b.layBytes(page*size, bytes.Repeat([]byte{33}, size))
			}
		}
		if key, e := Key(b.a, c.at); key != "" || e != api.ErrRange {
			t.Errorf("Key(%d) in %s: %q, error %d", c.at, c.pages, key, e)
		}
		b.insert(0, c.at, api.ErrRange)
		for _, at := range farAways {
			b.key(at, c.pages)
			b.insert(0, at, api.ErrRange)
		}
	}
}

// Promise 10.1: what is asked is what lies there now; Key changes nothing.
func TestKeyIsWhatLiesThere(t *testing.T) {
	b := made(t, "gg")
	for _, key := range []string{"a", "abc", "", "b", " ", strings.Repeat("z", 32), "end"} {
		b.lay(100, key)
		b.key(100, "an item that was laid anew")
		b.same("Key")
	}
	b.a.Return(0)
	b.granted[0] = false
	b.key(100, "a page that was given back")
	b.a.Grant(0)
	b.granted[0] = true
	clear(b.bytes[:size])
	b.key(100, "a page that was granted anew")
}

// Promises 10.1 and 10.2: items as layer 8 lays them are found by their keys, and stay what they were, but for FNext.
func TestItemsStay(t *testing.T) {
	table := []int{64, 128, 1024}
	a, _ := arena.New(3)
	for range 3 {
		a.Grant(0)
	}
	x, _ := New(a, 4)
	var places []int
	var items []item.Item
	add := func(v item.Item, list ...int) {
		t.Helper()
		if e := item.Write(a, table, list, v); e != api.OK {
			t.Fatalf("the item at %v: error %d", list, e)
		}
		places, items = append(places, list[0]), append(items, v)
	}
	for i := range 7 {
		add(item.Item{Key: strings.Repeat(string(rune('a'+i)), 4*i+1), Value: strings.Repeat("v", 5*i), Flags: uint32(i) << 28, Exp: math.MaxUint32 - uint32(i), Cas: math.MaxUint64 - uint64(i)}, i*128)
	}
	add(item.Item{Key: "long", Value: strings.Repeat("w", 1500), Cas: 1}, 1024, 2048)
	stay := func(after string) {
		t.Helper()
		for i, at := range places {
			if got, e := item.Read(a, table, at); got != items[i] || e != api.OK {
				t.Fatalf("the item at %d behind %s: %v, error %d", at, after, got, e)
			}
		}
	}
	for i, at := range places {
		if key, e := Key(a, at); key != items[i].Key || e != api.OK {
			t.Errorf("Key(%d): %q, error %d", at, key, e)
		}
		if e := x.Insert(at); e != api.OK {
			t.Errorf("Insert(%d): error %d", at, e)
		}
		stay("Insert")
	}
	for i, at := range places {
		if got, ok := x.Find(items[i].Key); got != at || !ok {
			t.Errorf("Find(%q): %d, %t", items[i].Key, got, ok)
		}
	}
	list, _ := x.Empty(2)
	stay("Empty")
	for i, at := range places {
		e := api.OK
		if slices.Contains(list, at) {
			at, e = 0, api.ErrNone
		}
		if got, has := x.Delete(items[i].Key); got != at || has != e {
			t.Errorf("Delete(%q): %d, error %d, not %d, error %d", items[i].Key, got, has, at, e)
		}
		stay("Delete")
	}
	if _, n := x.Size(); n != 0 {
		t.Errorf("%d items are left", n)
	}
}

// Promise 10.2: a table without items finds nothing, deletes nothing, and has empty buckets.
func TestEmptyTable(t *testing.T) {
	for _, n := range allSizes {
		b := made(t, "gf", n)
		for _, key := range append([]string{"a", "b", strings.Repeat("k", 32)}, noKeys...) {
			b.found(0, key, "New")
			b.delete(0, key, 0, api.ErrNone)
		}
		for bucket := -2; bucket <= n+1; bucket++ {
			b.empty(0, bucket)
		}
	}
}

// Promise 10.2: a table with one item: wherever it lies, it is the only one of its bucket, and there is nothing behind it.
func TestOneItem(t *testing.T) {
	for _, n := range allSizes {
		for i, at := range []int{0, 1, 64, 511, 983, 1024, 3072, 4050} {
			b := made(t, "ggfg", n)
			key := fmt.Sprint(i)
			b.put(0, at, key)
			b.is(0, bucketOf(key, n), at)
			b.next(at, -1)
			if got, ok := b.tables[0].Find(key); got != at || !ok {
				t.Errorf("Find(%q): %d, %t", key, got, ok)
			}
			b.insert(0, at, api.ErrTwice)
			b.delete(0, key, at, api.OK)
			b.is(0, bucketOf(key, n))
			b.next(at, -1)
			b.delete(0, key, 0, api.ErrNone)
			b.insert(0, at, api.OK)
			b.empty(0, bucketOf(key, n))
			b.empty(0, bucketOf(key, n))
			b.next(at, -1)
			b.insert(0, at, api.OK)
			b.is(0, bucketOf(key, n), at)
		}
	}
}

// Promise 10.2: the item at place 0 is one as any other: found, and deleted, alone, first, in the midst and last.
func TestPlaceNought(t *testing.T) {
	for i := range 3 {
		b := made(t, "g", 1)
		for j, key := range []string{"a", "b", "c"} {
			b.put(0, (j+3-i)%3*64, key)
		}
		key := string(rune('a' + i))
		if at, ok := b.tables[0].Find(key); at != 0 || !ok {
			t.Errorf("Find(%q): %d, %t", key, at, ok)
		}
		b.delete(0, key, 0, api.OK)
		b.next(0, -1)
		b.found(0, key, "Delete")
		b.delete(0, key, 0, api.ErrNone)
	}
}

// Promise 10.2: many items in one bucket: what was inserted last stands ahead of all, and FNext leads along.
func TestManyInOneBucket(t *testing.T) {
	for _, n := range []int{1, 8, 64} {
		for _, bucket := range []int{0, n / 2, n - 1} {
			b := made(t, "gg", n)
			var list []int
			for i, key := range keysOf(bucket, n, 20) {
				b.put(0, i*96, key)
				list = slices.Insert(list, 0, i*96)
				b.is(0, bucket, list...)
				for j, at := range list {
					if j+1 < len(list) {
						b.next(at, list[j+1])
					} else {
						b.next(at, -1)
					}
				}
			}
		}
	}
}

// Promise 10.2: some in each bucket, of each number of buckets; each bucket is emptied by itself.
func TestSomeInEachBucket(t *testing.T) {
	for _, n := range allSizes {
		each := 2
		if n < 16 {
			each = 3
		}
		b := made(t, strings.Repeat("g", (n*each+15)/16), n)
		places := spots(n * each)
		for bucket := range n {
			list := places[bucket*each:][:each]
			keys := keysOf(bucket, n, each)
			for i, at := range slices.Backward(list) {
				b.put(0, at, keys[i])
			}
			b.is(0, bucket, list...)
		}
		if buckets, items := b.tables[0].Size(); buckets != n || items != n*each {
			t.Errorf("Size: %d, %d", buckets, items)
		}
		for i := range n {
			bucket := i * 5 % n
			b.empty(0, bucket)
			b.is(0, bucket)
			b.empty(0, bucket)
			b.empty(0, -1-i)
			b.empty(0, n+i)
		}
		if buckets, items := b.tables[0].Size(); buckets != n || items != 0 {
			t.Errorf("Size behind all Empties: %d, %d", buckets, items)
		}
	}
}

// Promise 10.2: the first one, one in the midst, the last one and the only one of a chain are deleted, once more, and inserted anew.
func TestDelete(t *testing.T) {
	for n := 1; n <= 7; n++ {
		for i := range n {
			b, places, keys := chain(t, 4, 1, n)
			rest := slices.Delete(slices.Clone(places), i, i+1)
			b.delete(0, keys[i], places[i], api.OK)
			b.is(0, 1, rest...)
			b.next(places[i], -1)
			b.delete(0, keys[i], 0, api.ErrNone)
			b.is(0, 1, rest...)
			b.insert(0, places[i], api.OK)
			b.is(0, 1, append([]int{places[i]}, rest...)...)
			b.insert(0, places[i], api.ErrTwice)
			b.delete(0, keys[i], places[i], api.OK)
			for j, at := range places {
				if j != i {
					b.delete(0, keys[j], at, api.OK)
				}
			}
			b.is(0, 1)
		}
	}
}

// Promise 10.2: a chain is deleted from the first one on, from the last one on, and from the midst, till nothing is left.
func TestDeleteAll(t *testing.T) {
	for _, which := range []func(n int) int{
		func(int) int { return 0 }, func(n int) int { return n - 1 }, func(n int) int { return n / 2 }, func(n int) int { return n % 3 * (n - 1) / 2 },
	} {
		b, places, keys := chain(t, 2, 1, 30)
		for len(places) > 0 {
			i := which(len(places))
			b.delete(0, keys[i], places[i], api.OK)
			places, keys = slices.Delete(places, i, i+1), slices.Delete(keys, i, i+1)
			b.is(0, 1, places...)
		}
	}
}

// Promise 10.2: each item of a chain is inserted once more; it stays where it is.
func TestInsertTwice(t *testing.T) {
	for n := 1; n <= 6; n++ {
		b, places, _ := chain(t, 8, 5, n)
		for _, at := range places {
			b.insert(0, at, api.ErrTwice)
			b.insert(0, at, api.ErrTwice)
		}
		b.is(0, 5, places...)
	}
}

// Promise 10.2: another item with a key that is there is refused, and nothing of it changed; behind a Delete it is taken, and the other one refused.
func TestTwoWithOneKey(t *testing.T) {
	for i := range 5 {
		b, places, keys := chain(t, 4, 2, 5)
		other := b.spare()
		b.lay(other, keys[i])
		for range 2 {
			b.insert(0, other, api.ErrTwice)
		}
		if at, ok := b.tables[0].Find(keys[i]); at != places[i] || !ok {
			t.Errorf("Find(%q): %d, %t", keys[i], at, ok)
		}
		b.delete(0, keys[i], places[i], api.OK)
		b.insert(0, other, api.OK)
		b.insert(0, places[i], api.ErrTwice)
		b.insert(0, other, api.ErrTwice)
		b.is(0, 2, append([]int{other}, slices.Delete(slices.Clone(places), i, i+1)...)...)
		b.delete(0, keys[i], other, api.OK)
		b.insert(0, places[i], api.OK)
	}
}

// Promise 10.2: an item that was deleted has another key, and is inserted anew: it is found by that one alone.
func TestInsertWithAnotherKey(t *testing.T) {
	b := made(t, "g", 8)
	b.put(0, 64, "one")
	b.put(0, 128, "two")
	b.delete(0, "one", 64, api.OK)
	b.lay(64, "two")
	b.insert(0, 64, api.ErrTwice)
	b.put(0, 64, "three")
	b.found(0, "one", "another key")
	if at, ok := b.tables[0].Find("three"); at != 64 || !ok {
		t.Errorf("Find of three: %d, %t", at, ok)
	}
	b.delete(0, "one", 0, api.ErrNone)
	b.delete(0, "three", 64, api.OK)
}

// Promise 10.2: keys that nobody has, among them those that are no keys, are neither found nor deleted, wherever they would stand.
func TestKeysThatNobodyHas(t *testing.T) {
	for _, n := range []int{1, 2, 64} {
		b := made(t, "gg", n)
		for i, key := range []string{"a", "ab", "abc", "b", "A", "k", strings.Repeat("k", 32), "!", "~", "aa", "k0", "\"", "@b"} {
			b.put(0, i*80, key)
		}
		for _, key := range append([]string{"c", "ac", "abcd", "bc", "B", "aB", "ba", "}", "K", strings.Repeat("k", 31), strings.Repeat("k", 33), strings.Repeat("k", 64), "a\x00", "\x00a", "ab\x00", "é", "@", "@b@"}, noKeys...) {
			b.found(0, key, "Inserts")
			b.delete(0, key, 0, api.ErrNone)
		}
		for v := range 256 {
			for _, key := range []string{string([]byte{byte(v)}), string([]byte{'a', byte(v)}), string([]byte{byte(v), 'b'})} {
				if _, ok := b.find(0, key); !ok {
					b.found(0, key, "Inserts")
					if at, e := b.tables[0].Delete(key); at != 0 || e != api.ErrNone {
						t.Errorf("Delete(%q): %d, error %d", key, at, e)
					}
				}
			}
		}
		b.same("Deletes of keys that nobody has")
	}
}

// Promises 10.2 and 10.3: keys whose numbers are the same, and so their bucket, whatever the number of buckets is, are several keys.
func TestKeysOfOneNumber(t *testing.T) {
	sum := func(key string) uint32 {
		h := fnv.New32a()
		h.Write([]byte(key))
		return h.Sum32()
	}
	for _, n := range allSizes {
		for _, c := range [][2]string{{"costarring", "liquid"}, {"declinate", "macallums"}, {"altarage", "zinke"}} {
			if sum(c[0]) != sum(c[1]) {
				t.Fatalf("%q and %q have several numbers", c[0], c[1])
			}
			b := made(t, "g", n)
			b.put(0, 100, c[0])
			b.found(0, c[1], "Insert")
			b.delete(0, c[1], 0, api.ErrNone)
			b.put(0, 200, c[1])
			b.is(0, bucketOf(c[0], n), 200, 100)
			b.delete(0, c[0], 100, api.OK)
			b.found(0, c[0], "Delete")
			b.delete(0, c[1], 200, api.OK)
		}
	}
}

// Promise 10.2: keys that begin with one another, or are the same but for one byte, are several keys.
func TestKeysThatAreNearlyTheSame(t *testing.T) {
	b := made(t, "ggggg", 1)
	at := 0
	put := func(key string) {
		if at%size+header+len(key) > size {
			at += size - at%size
		}
		b.put(0, at, key)
		at += header + len(key)
	}
	for n := 1; n <= 32; n++ {
		put(strings.Repeat("k", n))
	}
	for i := range 32 {
		key := []byte(strings.Repeat("k", 32))
		key[i] = 'l'
		b.found(0, string(key), "Inserts")
		put(string(key))
	}
}

// Promise 10.2: Empty takes all out, in order, each FNext none; other buckets keep what they have; all are inserted anew.
func TestEmpty(t *testing.T) {
	for n := range 9 {
		b, places, keys := chain(t, 4, 3, n)
		other := b.spare()
		b.put(0, other, keysOf(2, 4, 1)[0])
		list, e := b.tables[0].Empty(3)
		if !slices.Equal(list, places) || e != api.OK {
			t.Fatalf("Empty: %v, error %d, not %v", list, e, places)
		}
		for _, at := range places {
			b.next(at, -1)
			b.layNext(at, -1)
		}
		b.lists[0][3] = nil
		b.same("Empty")
		for i, key := range keys {
			b.delete(0, key, 0, api.ErrNone)
			b.insert(0, places[i], api.OK)
		}
		slices.Reverse(places)
		b.is(0, 3, places...)
		b.empty(0, 3)
		b.empty(0, 3)
		b.is(0, 2, other)
		b.empty(0, 2)
	}
}

// Promise 10.2: buckets that are none are told by ErrRange, and with nothing beside it, also where items are; nothing is changed.
func TestBucketsThatAreNone(t *testing.T) {
	for _, n := range allSizes {
		b := made(t, "g", n)
		for i, at := range spots(10) {
			b.put(0, at, fmt.Sprint(i))
		}
		for _, bucket := range []int{-1, -2, -n, -n - 1, n, n + 1, 2 * n, 64, 65, 128, math.MinInt, math.MinInt + 1, math.MaxInt, math.MaxInt32, math.MinInt32, far, -far, far + n - 1, 1 << 31} {
			if bucket >= 0 && bucket < n {
				continue
			}
			if list, e := b.tables[0].Bucket(bucket); len(list) != 0 || e != api.ErrRange {
				t.Errorf("Bucket(%d) of %d: %v, error %d", bucket, n, list, e)
			}
			if list, e := b.tables[0].Empty(bucket); len(list) != 0 || e != api.ErrRange {
				t.Errorf("Empty(%d) of %d: %v, error %d", bucket, n, list, e)
			}
		}
		b.same("buckets that are none")
	}
}

// Promise 10.2: inputs in which two things are wrong at once: Key's errors, in their order, ahead of a key that is there.
func TestTwoWrongAtOnce(t *testing.T) {
	long := strings.Repeat("k", 32)
	for _, c := range []struct {
		pages string
		there []string
		at    int
		n     byte
		text  string
		e     api.Errno
		what  string
	}{
		{"g", []string{"a"}, 983, 2, "a", api.ErrRange, "over the page's end, its beginning there"},
		{"gg", []string{"a", "ab"}, 983, 2, "ab", api.ErrRange, "over the page's end, all of it there"},
		{"gg", []string{long}, 953, 32, long, api.ErrRange, "the longest over the page's end, there"},
		{"gg", []string{long}, 952, 33, long + "k", api.ErrRange, "too long, over the page's end, its beginning there"},
		{"gg", []string{long}, 700, 33, long + "k", api.ErrField, "too long, its beginning there"},
		{"gg", []string{long}, 951, 33, long + "k", api.ErrField, "too long, ends with its page, its beginning there"},
		{"g", []string{"a", "b"}, 700, 3, "a b", api.ErrField, "a blank, its parts there"},
		{"g", []string{"a"}, 700, 0, "a", api.ErrField, "no bytes, what lies there is there"},
		{"gg", []string{"a"}, 984, 0, "a", api.ErrField, "no bytes in the next page, what lies there is there"},
		{"gf", []string{"a"}, 984, 0, "", api.ErrRange, "no bytes in a free page"},
		{"gf", []string{"a"}, 984, 40, "", api.ErrRange, "too long, in a free page"},
		{"gg", []string{"a"}, 700, 2, "a\x80", api.ErrField, "a byte above 126, its beginning there"},
		{"gg", []string{"a"}, 700, 1, "a", api.ErrTwice, "there alone"},
		{"gg", []string{long}, 952, 32, long, api.ErrTwice, "the longest, ends with its page, there"},
		{"gg", []string{"a"}, 984, 1, "a", api.ErrTwice, "in the next page, there"},
	} {
		b := made(t, c.pages, 2)
		for i, key := range c.there {
			b.put(0, i*100, key)
		}
		b.layBytes(c.at+keyAt, []byte{c.n})
		b.layBytes(c.at+header, []byte(c.text))
		b.insert(0, c.at, c.e)
	}
	// A header that is half outside, and would tell of a key that is there, or of none.
	b := made(t, "gg", 2)
	b.put(0, 100, "a")
	for _, n := range []byte{0, 1, 33} {
		b.layBytes(990+keyAt, []byte{n})
		b.layBytes(990+header, []byte("a"))
		b.insert(0, 990, api.ErrRange)
	}
}

// Promise 10.2: what Insert refuses stays as it is, and is not found, whatever its header said ahead of it.
func TestInsertRefuses(t *testing.T) {
	b, places, _ := chain(t, 2, 1, 3)
	at := b.spare()
	for _, key := range []string{"", " ", "a b", "\x7f", "\x80\x80", strings.Repeat("k", 33)} {
		b.lay(at, key)
		for _, next := range []int{-1, 0, places[0], places[2], at, 1 << 20} {
			b.a.SetPlace(at, next)
			b.layNext(at, next)
			b.insert(0, at, api.ErrField)
			b.found(0, key, "Insert that was refused")
			b.delete(0, key, 0, api.ErrNone)
		}
	}
	b.is(0, 1, places...)
}

// Promise 10.2: what FNext said ahead of an Insert is nothing: a place, none, or four bytes that are no place.
func TestInsertAsksNotForNext(t *testing.T) {
	for _, n := range []int{1, 4} {
		for _, next := range [][]byte{{255, 255, 255, 255}, {0, 0, 0, 128}, {254, 255, 255, 255}, {0, 0, 0, 0}, {64, 0, 0, 0}, {128, 0, 0, 0}, {255, 255, 255, 127}} {
			b := made(t, "g", n)
			for i, key := range []string{"a", "b", "c", "d"} {
				b.layBytes(i*64, next)
				b.put(0, i*64, key)
			}
			for i, key := range []string{"a", "b", "c", "d"} {
				b.delete(0, key, i*64, api.OK)
				b.layBytes(i*64, next)
				b.insert(0, i*64, api.OK)
			}
			for bucket := range n {
				b.empty(0, bucket)
			}
		}
	}
}

// Promise 10.2: two tables over one arena have nothing in common; what one let go of the other one takes.
func TestTwoTables(t *testing.T) {
	for _, sizes := range [][]int{{1, 1}, {8, 16}, {64, 8}, {4, 4}} {
		b := made(t, "gg", sizes...)
		for i := range 12 {
			b.put(i%2, i*128, fmt.Sprint(i))
		}
		for i := range 12 {
			b.delete(1-i%2, fmt.Sprint(i), 0, api.ErrNone)
			b.found(1-i%2, fmt.Sprint(i), "Inserts")
		}
		// One key in both of them, of two items.
		b.lay(64, "1")
		b.insert(1, 64, api.ErrTwice)
		b.insert(0, 64, api.OK)
		b.insert(0, 64, api.ErrTwice)
		b.delete(1, "1", 128, api.OK)
		b.delete(0, "1", 64, api.OK)
		b.insert(1, 128, api.OK)
		for i := range 12 {
			b.delete(i%2, fmt.Sprint(i), i*128, api.OK)
			b.insert(1-i%2, i*128, api.OK)
		}
		// As the layer above does it: bucket by bucket from one to the other, the last one first.
		for bucket := range sizes[0] {
			list := slices.Clone(b.lists[0][bucket])
			b.empty(0, bucket)
			for _, at := range slices.Backward(list) {
				b.insert(1, at, api.OK)
			}
		}
		if _, items := b.tables[1].Size(); items != 12 {
			t.Errorf("%d items went over", items)
		}
	}
}

// Promise 10.2: tables over two arenas have the same places and keys, and nothing in common.
func TestTwoArenas(t *testing.T) {
	one, other := made(t, "gg", 2), made(t, "gf", 2)
	for i, key := range []string{"a", "b", "c"} {
		one.put(0, i*64, key)
		other.same("Inserts in another arena")
	}
	one.put(0, 1024, "d")
	other.insert(0, 1024, api.ErrRange)
	other.put(0, 0, "b")
	one.delete(0, "a", 0, api.OK)
	other.same("Delete in another arena")
	one.empty(0, 0)
	other.same("Empty in another arena")
	other.delete(0, "b", 0, api.OK)
	one.same("Delete in another arena")
}

// Promise 10.2: a page that is given back while no item of it is in the table: nothing in it is taken, till it is granted anew.
func TestPageThatIsGivenBack(t *testing.T) {
	b := made(t, "gg", 1)
	b.put(0, 64, "a")
	b.put(0, 1024, "b")
	b.delete(0, "b", 1024, api.OK)
	b.a.Return(1)
	b.granted[1] = false
	b.insert(0, 1024, api.ErrRange)
	b.found(0, "b", "Return")
	b.a.Grant(3)
	b.granted[1] = true
	clear(b.bytes[size:])
	b.insert(0, 1024, api.ErrField)
	b.put(0, 1024, "b")
	b.is(0, 0, 1024, 64)
}

// Promise 10.2: a page may be granted to any class, and later than the table was made.
func TestPageOfAnyClass(t *testing.T) {
	for class := range 8 {
		a, _ := arena.New(2)
		x, _ := New(a, 4)
		if e := x.Insert(0); e != api.ErrRange {
			t.Errorf("Insert from a free page: error %d", e)
		}
		for i, key := range []string{"a", "b"} {
			a.Grant((class + i) % 8)
			item.Write(a, []int{1024}, []int{i * size}, item.Item{Key: key})
			if e := x.Insert(i * size); e != api.OK {
				t.Errorf("Insert from a page of class %d: error %d", (class+i)%8, e)
			}
			if at, ok := x.Find(key); at != i*size || !ok {
				t.Errorf("Find(%q): %d, %t", key, at, ok)
			}
		}
	}
}

// Promise 10.2 and rule R4: a list that is handed out is its asker's alone: what he writes into it, and behind its end, is in no other, nor in the table.
func TestListsAreHandedOut(t *testing.T) {
	for n := range 9 {
		b, places, _ := chain(t, 2, 0, n)
		first, _ := b.tables[0].Bucket(0)
		second, _ := b.tables[0].Bucket(0)
		first = first[:cap(first)]
		for i := range first {
			first[i] = 5
		}
		if !slices.Equal(second, places) {
			t.Errorf("two answers share memory: %v, not %v", second, places)
		}
		second = append(second, 7)
		second[0] = 6
		b.same("a change of lists that were handed out")
		third, _ := b.tables[0].Empty(0)
		for _, at := range places {
			b.layNext(at, -1)
		}
		b.lists[0][0] = nil
		b.same("Empty")
		kept := slices.Clone(third)
		for _, at := range slices.Backward(places) {
			b.insert(0, at, api.OK)
		}
		if !slices.Equal(third, kept) || !slices.Equal(kept, places) || second[0] != 6 {
			t.Errorf("a list that was handed out goes with the table: %v", third)
		}
		third = third[:cap(third)]
		for i := range third {
			third[i] = 8
		}
		b.same("a change of a list that Empty handed out")
	}
}

// Promise 10.2: a walk along a bucket's items that is left early tells the first ones alone, and leaves the table as it is; the next one begins anew.
func TestWalkIsLeftEarly(t *testing.T) {
	for n := range 8 {
		b, places, keys := chain(t, 4, 2, n)
		items := b.tables[0].items(2)
		for leave := 1; leave <= n+1; leave++ {
			var met []int
			for at := range items {
				met = append(met, at)
				if len(met) == leave {
					break
				}
			}
			if !slices.Equal(met, places[:min(leave, n)]) {
				t.Errorf("a walk that is left behind %d, of %v: %v", leave, places, met)
			}
			b.same("a walk that is left early")
		}
		// A search that finds its key early leaves a walk early, too.
		for i := range keys {
			b.found(0, keys[i], "a walk")
		}
		b.empty(0, 2)
		for at := range items {
			t.Errorf("a walk behind all were taken out: %d", at)
		}
	}
}

// Promise 10.2: whatever types are gathered, all are, in their order; none is no list, or an empty one.
func TestGather(t *testing.T) {
	for n := range 6 {
		list := strings.Split("a b c d e f", " ")[:n]
		if got := gather(slices.Values(list)); !slices.Equal(got, list) {
			t.Errorf("gathered of %v: %v", list, got)
		}
	}
}

// Promise 10.2: what is asked changes nothing, however often it is asked.
func TestAskingChangesNothing(t *testing.T) {
	b, _, keys := chain(t, 16, 9, 40)
	for range 3 {
		for _, key := range append(keys, noKeys...) {
			b.found(0, key, "questions")
		}
		b.keys("questions")
	}
}

// Promises 10.2 and 10.3: each chain of some of four items, in each order, and each call that there is of them and of others.
func TestAllSmallChains(t *testing.T) {
	places := []int{0, 128, 983, 1024}
	keys := []string{"a", "b", "c", "d"}
	others := map[int]string{256: "e", 512: "a", 700: " "}
	for _, n := range []int{1, 2} {
		for _, list := range orders(places) {
			start := func() *both {
				b := made(t, "gg", n)
				for i, at := range places {
					b.lay(at, keys[i])
				}
				for at, key := range others {
					b.lay(at, key)
				}
				for _, at := range slices.Backward(list) {
					b.insert(0, at, api.OK)
				}
				return b
			}
			for _, at := range append([]int{256, 512, 700, 985, 2048, -1}, places...) {
				b := start()
				b.insert(0, at, b.insertError(0, at))
			}
			for _, key := range append([]string{"e", "", " "}, keys...) {
				b := start()
				if at, ok := b.find(0, key); ok {
					b.delete(0, key, at, api.OK)
				} else {
					b.delete(0, key, 0, api.ErrNone)
				}
			}
			for bucket := -1; bucket <= n; bucket++ {
				start().empty(0, bucket)
			}
		}
	}
}

// orders are all lists of some of the places, in each order, each place at most once.
func orders(places []int) [][]int {
	all := [][]int{nil}
	for from := 0; from < len(all); from++ {
		for _, at := range places {
			if !slices.Contains(all[from], at) {
				all = append(all, append(slices.Clone(all[from]), at))
			}
		}
	}
	return all
}

// Promises 10.1 to 10.3: items side by side, their headers at the ends of pages, a key in the page behind its header.
func TestSideBySide(t *testing.T) {
	for _, n := range []int{1, 8} {
		b := made(t, "gg", n)
		var places []int
		for at := 0; at <= 984; at += 41 {
			places = append(places, at)
		}
		for at := 1025; at+41 <= 2*size; at += 41 {
			places = append(places, at)
		}
		for i, at := range places {
			b.put(0, at, string(rune('0'+i)))
		}
		if _, items := b.tables[0].Size(); items != 49 {
			t.Errorf("%d items in two pages", items)
		}
		for i := range places {
			j := i * 5 % 49
			b.delete(0, string(rune('0'+j)), places[j], api.OK)
		}
	}
}

// Promises 10.2 and 10.3: in an arena of all pages that there may be, as many items as go into it, in one bucket and in many.
func TestAllPages(t *testing.T) {
	for _, n := range []int{1, 64} {
		a, _ := arena.New(32)
		for range 32 {
			a.Grant(1)
		}
		x, _ := New(a, n)
		var places []int
		for page := range 32 {
			for i := range 24 {
				places = append(places, page*size+i*42)
			}
		}
		key := func(i int) string { return string([]byte{byte(33 + i/90), byte(33 + i%90)}) }
		want := make([][]int, n)
		for i, at := range places {
			a.SetNumber(at+keyAt, 1, 2)
			a.Write(at+header, []byte(key(i)))
			if e := x.Insert(at); e != api.OK {
				t.Fatalf("Insert(%d): error %d", at, e)
			}
			if _, items := x.Size(); items != i+1 {
				t.Fatalf("%d items behind %d Inserts", items, i+1)
			}
			bucket := bucketOf(key(i), n)
			want[bucket] = slices.Insert(want[bucket], 0, at)
		}
		for bucket := range n {
			if list, e := x.Bucket(bucket); !slices.Equal(list, want[bucket]) || e != api.OK {
				t.Errorf("bucket %d of %d: %v, error %d, not %v", bucket, n, list, e, want[bucket])
			}
		}
		for i, at := range places {
			if got, ok := x.Find(key(i)); got != at || !ok {
				t.Errorf("Find(%q): %d, %t", key(i), got, ok)
			}
			if i%3 == 0 {
				if got, e := x.Delete(key(i)); got != at || e != api.OK {
					t.Errorf("Delete(%q): %d, error %d", key(i), got, e)
				}
			}
		}
		left := 0
		for bucket := range n {
			list, e := x.Empty(bucket)
			left += len(list)
			if e != api.OK {
				t.Errorf("Empty(%d): error %d", bucket, e)
			}
		}
		if _, items := x.Size(); left != 512 || items != 0 {
			t.Errorf("%d items taken out, %d left", left, items)
		}
	}
}

// Promise 10.3: what was inserted, and not taken out, is found, and nothing else is; each is in its key's bucket alone: behind calls without order, right ones and wrong ones, of up to three tables over one arena.
func TestManyCalls(t *testing.T) {
	for seed := range 60 {
		pages := []string{"gg", "gfg", "fggf", "g", "gggg"}[seed%5]
		b := made(t, pages)
		for n := range 1 + seed%3 {
			b.more(allSizes[(seed/3+3*n)%len(allSizes)])
		}
		dice := noise(uint64(seed)+100, 4*200)
		for len(dice) > 0 {
			b.someCall(dice[:4])
			dice = dice[4:]
		}
		for n := range b.lists {
			b.each(n)
		}
	}
}

// each looks by the bytes of FNext alone whether each item of a table is in its key's bucket, and in no other.
func (b *both) each(n int) {
	b.t.Helper()
	met := map[int]int{}
	for bucket := range b.lists[n] {
		list, _ := b.tables[n].Bucket(bucket)
		for i, at := range list {
			met[at]++
			key, e := Key(b.a, at)
			if bucketOf(key, len(b.lists[n])) != bucket || e != api.OK || met[at] != 1 {
				b.t.Fatalf("%q at %d is in bucket %d, and there are %d of it", key, at, bucket, met[at])
			}
			if i+1 < len(list) {
				b.next(at, list[i+1])
			} else {
				b.next(at, -1)
			}
		}
	}
	if _, items := b.tables[n].Size(); items != len(met) {
		b.t.Fatalf("%d items, of %d", items, len(met))
	}
}

// someCall does the call that four bytes without order tell; each of a page's chunks is of one table alone.
func (b *both) someCall(dice []byte) {
	b.t.Helper()
	n := int(dice[1]) % len(b.lists)
	chunk := int(dice[2]) % (len(b.granted) * 16)
	chunk = (chunk - chunk%len(b.lists) + n) % (len(b.granted) * 16)
	at := chunk * 64
	key := string(rune('a' + int(dice[3])%20))
	for other := range b.lists {
		for _, list := range b.lists[other] {
			if slices.Contains(list, at) {
				n = other
			}
		}
	}
	has, e := b.keyOf(at)
	there := false
	if e == api.OK {
		place, ok := b.find(n, has)
		there = ok && place == at
	}
	switch dice[0] % 8 {
	case 0, 1, 2, 3:
		if !there && b.granted[at/size] {
			if dice[0] >= 224 {
				key = noKeys[int(dice[3])%14]
			}
			b.lay(at, key)
		}
		if dice[0] >= 240 {
			at = farAways[int(dice[3])%len(farAways)]
		}
		b.insert(n, at, b.insertError(n, at))
	case 4, 5, 6:
		if dice[0] >= 224 {
			key = noKeys[int(dice[3])%len(noKeys)]
		}
		if place, ok := b.find(n, key); ok {
			b.delete(n, key, place, api.OK)
		} else {
			b.delete(n, key, 0, api.ErrNone)
		}
	case 7:
		if dice[0] >= 128 {
			b.empty(n, int(dice[3])%(len(b.lists[n])+2)-1)
		}
	}
}

// Rule R1: all calls end, and none panics, also where somebody else changed FNext or the keys of items of a table, gave their page back, or inserted headers that have bytes in common.
func TestCallsEnd(t *testing.T) {
	places := []int{0, 64, 128, 983, 1024}
	keys := []string{"a", "b", "c", "d", "e"}
	start := func(n int) *both {
		b := made(t, "gg", n)
		for i, at := range places {
			b.put(0, at, keys[i])
		}
		return b
	}
	all := func(b *both) {
		x := b.tables[0]
		for _, at := range append([]int{32, 4, 8, 36, 2048}, append(places, farAways...)...) {
			x.Insert(at)
			Key(b.a, at)
		}
		for _, key := range append(keys, noKeys...) {
			x.Find(key)
			x.Delete(key)
		}
		for bucket := -1; bucket <= 2; bucket++ {
			x.Bucket(bucket)
			x.Empty(bucket)
		}
		x.Size()
	}
	for _, n := range []int{1, 2} {
		for _, spoilt := range places {
			for _, v := range []int{-1, 0, 4, 64, 983, 1020, 1023, 2048, 5000, math.MaxInt32} {
				b := start(n)
				b.a.SetPlace(spoilt, v)
				all(b)
			}
			b := start(n)
			b.a.Write(spoilt, []byte{0, 0, 0, 128})
			all(b)
			for _, v := range []uint64{0, 2, 33, 255} {
				b = start(n)
				b.a.SetNumber(spoilt+keyAt, 1, v)
				all(b)
			}
		}
		for page := range 2 {
			b := start(n)
			b.a.Return(page)
			all(b)
			b.a.Return(1 - page)
			all(b)
			b.a.Grant(0)
			all(b)
		}
	}
}
