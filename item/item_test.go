package item

import (
	"bytes"
	"math"
	"slices"
	"strings"
	"testing"

	"tallboy/api"
	"tallboy/arena"
)

// size is how many bytes a page has.
const size = 1024

// far is a whole number beyond all that an arena has, whose lowest 32 bits are 0.
const far = 1 << 32

// farAways are addresses in no arena of up to eight pages, and so far from it that no field of a header at them lies in one;
// some have a right one as their lowest bits.
var farAways = []int{-64, -1020, -1024, -1025, -2048, math.MinInt32, -far, -far + 64, math.MinInt, math.MinInt + 1, math.MinInt + 64, 8 * size, 8*size + 64,
	32 * size, 33 * size, 1 << 16, math.MaxInt32, 1 << 31, far, far + 64, far + 1024, 1 << 62, math.MaxInt, math.MaxInt - 1, math.MaxInt - 3, math.MaxInt - 12,
	math.MaxInt - 37, math.MaxInt - 39, math.MaxInt - 40, math.MaxInt - 63, math.MaxInt - 1023, math.MaxInt - 1024}

// wrongFields are numbers of no field; some have a right one as their lowest bits.
var wrongFields = []int{-1, -2, -12, -255, -256, 12, 13, 16, 255, 256, 259, 1024, math.MaxInt32, math.MinInt32, far, far + 3, -far, -far + 9,
	math.MaxInt, math.MinInt, math.MinInt + 1, math.MinInt + 8}

// fields are those of a header by the document's table: where each lies, how wide it is, and whether it is a place.
var fields = []struct {
	field, at, width int
	place            bool
}{
	{FNext, 0, 4, true}, {FPrev, 4, 4, true}, {FAfter, 8, 4, true}, {FMore, 12, 4, true}, {FCas, 16, 8, false}, {FExp, 24, 4, false},
	{FFlags, 28, 4, false}, {FValue, 32, 2, false}, {FKey, 34, 1, false}, {FSeg, 35, 1, false}, {FBits, 36, 1, false}, {FRefs, 37, 1, false},
}

// tables are right ones, of one size and of eight, some with sizes that the classes' layer does not make.
var tables = [][]int{
	{64, 96, 144, 216, 328, 496, 1024}, {64, 128, 256, 512, 1024}, {64, 128, 1024}, {64, 72, 80, 88, 96, 104, 112, 1024}, {1024}, {256}, {257}, {64, 256}, {64, 300},
	{41, 42, 43, 500}, {512}, {511}, {1000, 300}, {72, 400}, {-5, 0, 60, 1000, 64, 256}, {64, 1023},
}

// memory is an arena by the document's words: which pages are granted, and the bytes of all.
type memory struct {
	granted []bool
	bytes   []byte
}

// both are an arena, and what it must be.
type both struct {
	t *testing.T
	a *arena.Arena
	m *memory
}

// made is an arena with a page for each sign, g: granted, with bytes without order, f: free.
func made(t *testing.T, pages string) *both {
	t.Helper()
	a, e := arena.New(len(pages))
	if e != api.OK {
		t.Fatalf("an arena of %d pages: error %d", len(pages), e)
	}
	b := &both{t: t, a: a, m: &memory{granted: make([]bool, len(pages)), bytes: make([]byte, len(pages)*size)}}
	for page := range pages {
		a.Grant(page % 8)
		b.m.granted[page] = true
	}
	for page := range pages {
		b.lay(page*size, noise(uint64(page)+1, size))
	}
	for page, sign := range pages {
		if sign == 'f' {
			a.Return(page)
			b.m.granted[page] = false
		}
	}
	return b
}

// noise is n bytes without order, others for each seed.
func noise(seed uint64, n int) []byte {
	v := 88172645463325252 + seed*0x9E3779B97F4A7C15
	b := make([]byte, n)
	for i := range b {
		v ^= v << 13
		v ^= v >> 7
		v ^= v << 17
		b[i] = byte(v >> 24)
	}
	return b
}

// lay lays bytes into the arena, and into what it must be.
func (b *both) lay(at int, list []byte) {
	b.t.Helper()
	if e := b.a.Write(at, list); e != api.OK {
		b.t.Fatalf("%d bytes laid at %d: error %d", len(list), at, e)
	}
	copy(b.m.bytes[at:], list)
}

// layNumber lays a number, or a place, as bytes.
func (b *both) layNumber(at, width int, v int64) {
	b.t.Helper()
	b.lay(at, low(uint64(v), width))
}

// head lays a header's lengths and its FMore.
func (b *both) head(at, key, value, more int) {
	b.t.Helper()
	b.layNumber(at+12, 4, int64(more))
	b.layNumber(at+32, 2, int64(value))
	b.layNumber(at+34, 1, int64(key))
}

// low is a number's lowest bytes, the lowest first.
func low(v uint64, width int) []byte {
	list := make([]byte, width)
	for i := range list {
		list[i] = byte(v)
		v /= 256
	}
	return list
}

// has tells whether a byte lies within a granted page.
func (m *memory) has(at int) bool { return at >= 0 && at < len(m.bytes) && m.granted[at/size] }

// within tells whether n bytes lie within a granted page.
func (m *memory) within(at, n int) bool {
	if n < 0 || n > size || !m.has(at) {
		return false
	}
	for i := range n {
		if !m.has(at+i) || (at+i)/size != at/size {
			return false
		}
	}
	return true
}

// number is the number that bytes are that are there.
func (m *memory) number(at, width int) uint64 {
	v := uint64(0)
	for i := width - 1; i >= 0; i-- {
		v = v*256 + uint64(m.bytes[at+i])
	}
	return v
}

// place is the place that lies in four bytes.
func (m *memory) place(at int) (int, api.Errno) {
	if !m.within(at, 4) {
		return 0, api.ErrRange
	}
	v := m.number(at, 4)
	switch {
	case v == 1<<32-1:
		return -1, api.OK
	case v >= 1<<31:
		return 0, api.ErrField
	}
	return int(v), api.OK
}

// need is what Need must answer.
func need(table []int, key, value int) (int, int, api.Errno) {
	if key < 1 || key > 32 || value < 0 || value > 2000 {
		return 0, 0, api.ErrRange
	}
	if len(table) == 0 || table[len(table)-1] < 256 {
		return 0, 0, api.ErrField
	}
	for class, n := range table {
		if n >= 40+key+value {
			return class, 0, api.OK
		}
	}
	last := table[len(table)-1]
	left, more := value-(last-40-key), 0
	for left > 0 {
		left -= last - 4
		more++
	}
	return len(table) - 1, more, api.OK
}

// text is where each byte of an item's key and value lies, in chunks that are as many as they must be.
func text(table, places []int, key, value int) []int {
	class, _, _ := need(table, key, value)
	var list []int
	chunk, from, end := 0, 40, table[class]
	for len(list) < key+value {
		if from == end {
			chunk, from, end = chunk+1, 4, table[len(table)-1]
		}
		list = append(list, places[chunk]+from)
		from++
	}
	return list
}

// write does to the memory what Write must, and tells its error.
func (m *memory) write(table, places []int, x Item) api.Errno {
	class, more, e := need(table, len(x.Key), len(x.Value))
	if e != api.OK {
		return e
	}
	if len(places) != 1+more {
		return api.ErrField
	}
	for i, at := range places {
		n := table[len(table)-1]
		if i == 0 {
			n = table[class]
		}
		if !m.within(at, n) {
			return api.ErrRange
		}
	}
	behind := append(slices.Clone(places[1:]), -1)
	none := low(1<<32-1, 4)
	at := places[0]
	for _, part := range [][]byte{none, none, none, low(uint64(behind[0]), 4), low(x.Cas, 8), low(uint64(x.Exp), 4), low(uint64(x.Flags), 4),
		low(uint64(len(x.Value)), 2), {byte(len(x.Key)), 0, 0, 0}} {
		at += copy(m.bytes[at:], part)
	}
	for i, at := range places[1:] {
		copy(m.bytes[at:], low(uint64(behind[i+1]), 4))
	}
	for i, at := range text(table, places, len(x.Key), len(x.Value)) {
		m.bytes[at] = (x.Key + x.Value)[i]
	}
	return api.OK
}

// places is what Places must answer: all faults of the chain are looked for, and of those the one is told that is named first.
func (m *memory) places(at int) ([]int, api.Errno) {
	if !m.within(at, 40) {
		return nil, api.ErrRange
	}
	list, seen := []int{at}, map[int]bool{}
	next, e := m.place(at + 12)
	for e == api.OK && next != -1 && !seen[next] {
		seen[next] = true
		list = append(list, next)
		next, e = m.place(next)
	}
	endless := e == api.OK && next != -1
	if e == api.OK && (endless || len(list) > 16) {
		e = api.ErrField
	}
	if e != api.OK {
		return nil, e
	}
	return list, api.OK
}

// read is what Read must answer.
func (m *memory) read(table []int, at int) (Item, api.Errno) {
	if !m.within(at, 40) {
		return Item{}, api.ErrRange
	}
	key, value := int(m.number(at+34, 1)), int(m.number(at+32, 2))
	_, more, e := need(table, key, value)
	if e != api.OK {
		return Item{}, e
	}
	places, e := m.places(at)
	if e != api.OK {
		return Item{}, e
	}
	if len(places) != 1+more {
		return Item{}, api.ErrField
	}
	if !m.within(at+40, key) {
		return Item{}, api.ErrRange
	}
	var b []byte
	for _, at := range text(table, places, key, value) {
		if !m.has(at) {
			return Item{}, api.ErrRange
		}
		b = append(b, m.bytes[at])
	}
	return Item{Key: string(b[:key]), Value: string(b[key:]), Flags: uint32(m.number(at+28, 4)), Exp: uint32(m.number(at+24, 4)), Cas: m.number(at+16, 8)}, api.OK
}

// get is what Get must answer.
func (m *memory) get(at, field int) (int, api.Errno) {
	if field < 0 || field > 11 || field == 4 {
		return 0, api.ErrField
	}
	f := fields[field]
	if at > len(m.bytes) || !m.within(at+f.at, f.width) {
		return 0, api.ErrRange
	}
	if f.place {
		return m.place(at + f.at)
	}
	return int(m.number(at+f.at, f.width)), api.OK
}

// set does to the memory what Set must, and tells its error.
func (m *memory) set(at, field, v int) api.Errno {
	if field < 0 || field > 11 || field == 4 {
		return api.ErrField
	}
	f := fields[field]
	if !f.place && v < 0 {
		return api.ErrField
	}
	if at > len(m.bytes) || !m.within(at+f.at, f.width) {
		return api.ErrRange
	}
	if f.place && (v < -1 || v > 1<<31-1) || !f.place && v >= 1<<(8*f.width) {
		return api.ErrField
	}
	copy(m.bytes[at+f.at:], low(uint64(v), f.width))
	return api.OK
}

// same holds all that the arena has against what it must have.
func (b *both) same(after string) {
	b.t.Helper()
	for page, granted := range b.m.granted {
		got, e := b.a.Read(page*size, size)
		want := b.m.bytes[page*size : (page+1)*size]
		if granted != (e == api.OK) || granted && !bytes.Equal(got, want) {
			b.t.Fatalf("page %d behind %s: error %d, or other bytes: % x, not % x", page, after, e, got, want)
		}
	}
}

// write does a Write, and holds its answer and all bytes against what they must be.
func (b *both) write(table, places []int, x Item) api.Errno {
	b.t.Helper()
	e := b.m.write(table, places, x)
	if got := Write(b.a, table, places, x); got != e {
		b.t.Fatalf("Write(%v, %v, a key of %d, a value of %d): error %d, not %d", table, places, len(x.Key), len(x.Value), got, e)
	}
	b.same("Write")
	return e
}

// read does a Read, and holds its answer against what it must be.
func (b *both) read(table []int, at int) (Item, api.Errno) {
	b.t.Helper()
	x, e := b.m.read(table, at)
	if got, ge := Read(b.a, table, at); got != x || ge != e {
		b.t.Fatalf("Read(%v, %d): %v, error %d, not %v, error %d", table, at, got, ge, x, e)
	}
	return x, e
}

// places does a Places, and holds its answer against what it must be.
func (b *both) places(at int) ([]int, api.Errno) {
	b.t.Helper()
	list, e := b.m.places(at)
	if got, ge := Places(b.a, at); !slices.Equal(got, list) || ge != e {
		b.t.Fatalf("Places(%d): %v, error %d, not %v, error %d", at, got, ge, list, e)
	}
	return list, e
}

// get does a Get, and holds its answer against what it must be.
func (b *both) get(at, field int) {
	b.t.Helper()
	v, e := b.m.get(at, field)
	if got, ge := Get(b.a, at, field); got != v || ge != e {
		b.t.Fatalf("Get(%d, %d): %d, error %d, not %d, error %d", at, field, got, ge, v, e)
	}
}

// set does a Set, and holds its answer and all bytes against what they must be.
func (b *both) set(at, field, v int) {
	b.t.Helper()
	e := b.m.set(at, field, v)
	if got := Set(b.a, at, field, v); got != e {
		b.t.Fatalf("Set(%d, %d, %d): error %d, not %d", at, field, v, got, e)
	}
	b.same("Set")
}

// mustRead tells what Read is to answer in a test's own words, and holds it against what is reckoned, too.
func (b *both) mustRead(table []int, at int, want api.Errno) {
	b.t.Helper()
	if _, e := b.read(table, at); e != want {
		b.t.Fatalf("Read(%v, %d): error %d, not %d", table, at, e, want)
	}
}

// mustWrite tells what Write is to answer in a test's own words, and holds it against what is reckoned, too.
func (b *both) mustWrite(table, places []int, x Item, want api.Errno) {
	b.t.Helper()
	if e := b.write(table, places, x); e != want {
		b.t.Fatalf("Write(%v, %v, a key of %d, a value of %d): error %d, not %d", table, places, len(x.Key), len(x.Value), e, want)
	}
}

// mustPlaces tells what Places is to answer in a test's own words, and holds it against what is reckoned, too.
func (b *both) mustPlaces(at int, want api.Errno, list ...int) {
	b.t.Helper()
	if got, e := b.places(at); e != want || !slices.Equal(got, list) {
		b.t.Fatalf("Places(%d): %v, error %d, not %v, error %d", at, got, e, list, want)
	}
}

// some is an item with a key and a value of so many bytes without order, and with numbers without order.
func some(seed uint64, key, value int) Item {
	b := noise(seed+77, key+value+16)
	n := b[key+value:]
	return Item{Key: string(b[:key]), Value: string(b[key : key+value]),
		Flags: uint32(n[0])<<24 | uint32(n[1])<<8 | 1, Exp: uint32(n[2])<<24 | uint32(n[3]), Cas: uint64(n[4])<<56 | uint64(n[5])<<32 | uint64(n[6])}
}

// room is where an item's chunks may begin, no two of which have a byte in common, in eight pages: the first one ends with page 1, or nearly so;
// the others stand behind it and ahead of it, not in order.
func room(table []int, key, value int) []int {
	class, more, _ := need(table, key, value)
	n, last := table[class], table[len(table)-1]
	list := []int{2*size - n}
	var rest []int
	for page := 2; page < 8; page++ {
		for at := page * size; at+last <= (page+1)*size; at += last {
			rest = append(rest, at)
		}
	}
	for at := 0; at+last <= size; at += last {
		rest = append(rest, at)
	}
	for i := range more {
		list = append(list, rest[(i*5+3)%len(rest)])
	}
	return list
}

// Promise 8.1: the chapter's example.
func TestExample(t *testing.T) {
	table := []int{64, 128, 1024}
	if class, more, e := Need(table, 3, 10); class != 0 || more != 0 || e != api.OK {
		t.Errorf("Need of 3 and 10: %d, %d, error %d", class, more, e)
	}
	if class, more, e := Need(table, 3, 1000); class != 2 || more != 1 || e != api.OK {
		t.Errorf("Need of 3 and 1000: %d, %d, error %d", class, more, e)
	}
}

// Promise 8.1: classes and further chunks, told one by one.
func TestNeedTold(t *testing.T) {
	many, one, least := []int{64, 128, 1024}, []int{1024}, []int{256}
	for _, c := range []struct {
		table            []int
		key, value       int
		class, more      int
		e                api.Errno
		whatItIsAnEdgeOf string
	}{
		{many, 0, 10, 0, 0, api.ErrRange, "the key"}, {many, 1, 10, 0, 0, api.OK, "the key"}, {many, 32, 10, 1, 0, api.OK, "the key"}, {many, 33, 10, 0, 0, api.ErrRange, "the key"},
		{many, -1, 10, 0, 0, api.ErrRange, "the key"}, {many, 3, -1, 0, 0, api.ErrRange, "the value"}, {many, 3, 0, 0, 0, api.OK, "the value"},
		{many, 3, 2000, 2, 1, api.OK, "the value"}, {many, 3, 2001, 0, 0, api.ErrRange, "the value"}, {many, 32, 2000, 2, 2, api.OK, "both"},
		{many, 3, 20, 0, 0, api.OK, "the first size"}, {many, 3, 21, 0, 0, api.OK, "the first size"}, {many, 3, 22, 1, 0, api.OK, "the first size"},
		{many, 24, 0, 0, 0, api.OK, "the first size"}, {many, 25, 0, 1, 0, api.OK, "the first size"},
		{many, 3, 85, 1, 0, api.OK, "the second size"}, {many, 3, 86, 2, 0, api.OK, "the second size"},
		{many, 3, 981, 2, 0, api.OK, "the first chunk"}, {many, 3, 982, 2, 1, api.OK, "the first chunk"}, {many, 3, 980, 2, 0, api.OK, "the first chunk"},
		{many, 4, 980, 2, 0, api.OK, "the first chunk"}, {many, 4, 981, 2, 1, api.OK, "the first chunk"},
		{many, 4, 2000, 2, 1, api.OK, "the further chunk"}, {many, 5, 2000, 2, 2, api.OK, "the further chunk"}, {many, 5, 1999, 2, 1, api.OK, "the further chunk"},
		{one, 1, 0, 0, 0, api.OK, "one size"}, {one, 1, 983, 0, 0, api.OK, "one size"}, {one, 1, 984, 0, 1, api.OK, "one size"}, {one, 32, 1972, 0, 1, api.OK, "one size"},
		{one, 32, 1973, 0, 2, api.OK, "one size"}, {one, 32, 2000, 0, 2, api.OK, "one size"},
		{least, 1, 215, 0, 0, api.OK, "the least size"}, {least, 1, 216, 0, 1, api.OK, "the least size"}, {least, 1, 467, 0, 1, api.OK, "the least size"},
		{least, 1, 468, 0, 2, api.OK, "the least size"}, {least, 1, 1979, 0, 7, api.OK, "the least size"}, {least, 1, 1980, 0, 8, api.OK, "the least size"},
		{least, 32, 2000, 0, 8, api.OK, "the least size"},
		{[]int{255}, 1, 0, 0, 0, api.ErrField, "the last size"}, {[]int{64, 255}, 1, 0, 0, 0, api.ErrField, "the last size"}, {[]int{64, 256}, 1, 0, 0, 0, api.OK, "the last size"},
		{[]int{256, 255}, 1, 0, 0, 0, api.ErrField, "the last size"}, {[]int{1024, 64}, 1, 0, 0, 0, api.ErrField, "the last size"}, {[]int{255, 256}, 32, 200, 1, 1, api.OK, "the last size"},
		{nil, 1, 0, 0, 0, api.ErrField, "no size"}, {[]int{}, 1, 0, 0, 0, api.ErrField, "no size"}, {make([]int, 0, 8), 1, 0, 0, 0, api.ErrField, "no size"},
		{[]int{0}, 1, 0, 0, 0, api.ErrField, "no size"}, {[]int{-1}, 1, 0, 0, 0, api.ErrField, "no size"}, {[]int{math.MinInt}, 1, 0, 0, 0, api.ErrField, "no size"},
		{[]int{far + 64, 255}, 1, 0, 0, 0, api.ErrField, "far sizes"}, {[]int{-far + 1024}, 1, 0, 0, 0, api.ErrField, "far sizes"}, {[]int{far}, 32, 2000, 0, 0, api.OK, "far sizes"},
		{[]int{math.MaxInt}, 32, 2000, 0, 0, api.OK, "far sizes"}, {[]int{math.MinInt, math.MaxInt}, 32, 2000, 1, 0, api.OK, "far sizes"},
		{[]int{3000, 256}, 32, 2000, 0, 0, api.OK, "sizes that fall"}, {[]int{500, 400, 300}, 10, 251, 0, 0, api.OK, "sizes that fall"},
		{[]int{500, 400, 300}, 10, 451, 2, 1, api.OK, "sizes that fall"}, {[]int{500, 400, 300}, 10, 450, 0, 0, api.OK, "sizes that fall"},
		{[]int{2071}, 32, 2000, 0, 1, api.OK, "the greatest"}, {[]int{2072}, 32, 2000, 0, 0, api.OK, "the greatest"}, {[]int{64, 2000}, 32, 1928, 1, 0, api.OK, "the greatest"},
		// wrong twice: the lengths are told ahead of the table, both by the same error
		{nil, 0, 0, 0, 0, api.ErrRange, "the order"}, {nil, 33, 0, 0, 0, api.ErrRange, "the order"}, {[]int{255}, 1, 2001, 0, 0, api.ErrRange, "the order"},
		{[]int{255}, 1, -1, 0, 0, api.ErrRange, "the order"}, {many, 0, 2001, 0, 0, api.ErrRange, "the order"}, {many, 33, -1, 0, 0, api.ErrRange, "the order"},
	} {
		if class, more, e := Need(c.table, c.key, c.value); class != c.class || more != c.more || e != c.e {
			t.Errorf("Need(%v, %d, %d) (%s): %d, %d, error %d, not %d, %d, error %d", c.table, c.key, c.value, c.whatItIsAnEdgeOf, class, more, e, c.class, c.more, c.e)
		}
	}
}

// Promise 8.1: all lengths that there are, and those near them, with each table.
func TestNeedOfAllLengths(t *testing.T) {
	for _, table := range tables {
		for key := -2; key <= 35; key++ {
			for value := -2; value <= 2003; value++ {
				class, more, e := need(table, key, value)
				if c, m, ge := Need(table, key, value); c != class || m != more || ge != e {
					t.Fatalf("Need(%v, %d, %d): %d, %d, error %d, not %d, %d, error %d", table, key, value, c, m, ge, class, more, e)
				}
			}
		}
	}
}

// Promise 8.1: each last size that there may be, and those near them; lengths far away.
func TestNeedOfEachLastSize(t *testing.T) {
	for last := -300; last <= 2200; last++ {
		for _, table := range [][]int{{last}, {64, last}} {
			for _, key := range []int{0, 1, 17, 32, 33} {
				for _, value := range []int{-1, 0, 1, 183, 184, 216, 1000, 1500, 1999, 2000, 2001} {
					class, more, e := need(table, key, value)
					if c, m, ge := Need(table, key, value); c != class || m != more || ge != e {
						t.Fatalf("Need(%v, %d, %d): %d, %d, error %d, not %d, %d, error %d", table, key, value, c, m, ge, class, more, e)
					}
				}
			}
		}
	}
	for _, n := range []int{math.MinInt, math.MinInt + 1, math.MinInt32, -far, -far + 8, -256, -32, far, far + 8, math.MaxInt32, math.MaxInt - 40, math.MaxInt - 1, math.MaxInt, 1 << 16, 256, 257} {
		for _, table := range [][]int{nil, {255}, {1024}, {64, 256}, {math.MaxInt}} {
			for _, other := range []int{n, math.MaxInt, math.MinInt, 5} {
				if class, more, e := Need(table, n, other); class != 0 || more != 0 || e != api.ErrRange {
					t.Errorf("Need(%v, %d, %d): %d, %d, error %d", table, n, other, class, more, e)
				}
				if n > 2000 || n < 0 {
					if class, more, e := Need(table, other, n); class != 0 || more != 0 || e != api.ErrRange {
						t.Errorf("Need(%v, %d, %d): %d, %d, error %d", table, other, n, class, more, e)
					}
				}
			}
		}
	}
}

// Promise 8.2: an item in one chunk, byte by byte.
func TestBytesOfOneChunk(t *testing.T) {
	b := made(t, "gg")
	before := slices.Clone(b.m.bytes)
	x := Item{Key: "key", Value: "value!", Flags: 0x01020304, Exp: 0xFFFEFDFC, Cas: 0x8877665544332211}
	if e := Write(b.a, []int{64, 128, 1024}, []int{1024 + 960}, x); e != api.OK {
		t.Fatalf("Write: error %d", e)
	}
	want := append([]byte{
		255, 255, 255, 255, 255, 255, 255, 255, 255, 255, 255, 255, 255, 255, 255, 255,
		0x11, 0x22, 0x33, 0x44, 0x55, 0x66, 0x77, 0x88, 0xFC, 0xFD, 0xFE, 0xFF, 4, 3, 2, 1,
		6, 0, 3, 0, 0, 0, before[1024+960+38], before[1024+960+39],
	}, "keyvalue!"...)
	copy(before[1024+960:], want)
	for page := range 2 {
		if got, e := b.a.Read(page*size, size); e != api.OK || !bytes.Equal(got, before[page*size:(page+1)*size]) {
			t.Errorf("page %d: error %d, % x", page, e, got)
		}
	}
	if got, e := Read(b.a, []int{64, 128, 1024}, 1024+960); got != x || e != api.OK {
		t.Errorf("Read: %v, error %d", got, e)
	}
}

// Promise 8.2: an item in three chunks, byte by byte; they stand in another order than their addresses.
func TestBytesOfThreeChunks(t *testing.T) {
	b := made(t, "ggg")
	before := slices.Clone(b.m.bytes)
	value := string(noise(5, 600))
	x := Item{Key: "k", Value: value, Flags: 7, Exp: 9, Cas: 1}
	table := []int{64, 300}
	if e := Write(b.a, table, []int{1024 + 300, 2048 + 724, 10}, x); e != api.OK {
		t.Fatalf("Write: error %d", e)
	}
	none := []byte{255, 255, 255, 255}
	first := slices.Concat(none, none, none, []byte{0xD4, 0x0A, 0, 0, 1, 0, 0, 0, 0, 0, 0, 0, 9, 0, 0, 0, 7, 0, 0, 0, 0x58, 2, 1, 0, 0, 0},
		before[1324+38:1324+40], []byte("k"), []byte(value[:259]))
	copy(before[1324:], first)
	copy(before[2048+724:], append([]byte{10, 0, 0, 0}, value[259:555]...))
	copy(before[10:], append(none, value[555:]...))
	for page := range 3 {
		if got, e := b.a.Read(page*size, size); e != api.OK || !bytes.Equal(got, before[page*size:(page+1)*size]) {
			t.Errorf("page %d: error %d, % x", page, e, got)
		}
	}
	if got, e := Read(b.a, table, 1324); got != x || e != api.OK {
		t.Errorf("Read: %v, error %d", got, e)
	}
	if got, e := Places(b.a, 1324); !slices.Equal(got, []int{1324, 2772, 10}) || e != api.OK {
		t.Errorf("Places: %v, error %d", got, e)
	}
}

// edges are lengths of values that fill chunks of a table to their ends, those that are one less and one more, and the least and greatest ones.
func edges(table []int, key int) []int {
	list := []int{0, 1, 2, 1999, 2000}
	last := table[len(table)-1]
	for _, n := range table {
		list = append(list, n-40-key-1, n-40-key, n-40-key+1)
	}
	for n := last - 40 - key; n <= 2001; n += last - 4 {
		list = append(list, n-1, n, n+1, n+last-4-2)
	}
	return slices.DeleteFunc(list, func(n int) bool { return n < 0 || n > 2000 })
}

// Promises 8.2 and 8.4: items of each length at which something changes: their bytes, all that is beside them, and what is read again.
func TestWriteAndRead(t *testing.T) {
	for i, table := range tables {
		for _, key := range []int{1, 2, 3, 16, 24, 31, 32} {
			for j, value := range edges(table, key) {
				b := made(t, "gggggggg")
				x := some(uint64(i*1000+j), key, value)
				places := room(table, key, value)
				b.mustWrite(table, places, x, api.OK)
				b.mustPlaces(places[0], api.OK, places...)
				if got, e := b.read(table, places[0]); got != x || e != api.OK {
					t.Fatalf("Read of what was written: %v, error %d", got, e)
				}
			}
		}
	}
}

// Promises 8.2 and 8.4: an item that is laid where another one lay leaves nothing of its fields.
func TestWriteOverAnother(t *testing.T) {
	table := []int{64, 128, 1024}
	b := made(t, "ggg")
	for i, at := range []int{0, 0, 0} {
		for field := range fields {
			if field != FCas {
				b.set(at, field, 1<<(8*fields[field].width-1)-1)
			}
		}
		x := some(uint64(i), 32, 20+i)
		b.mustWrite(table, []int{at}, x, api.OK)
		b.mustPlaces(at, api.OK, at)
		for _, field := range []int{FSeg, FBits, FRefs} {
			if v, e := Get(b.a, at, field); v != 0 || e != api.OK {
				t.Errorf("field %d behind Write: %d, error %d", field, v, e)
			}
		}
		for _, field := range []int{FNext, FPrev, FAfter, FMore} {
			if v, e := Get(b.a, at, field); v != api.None || e != api.OK {
				t.Errorf("field %d behind Write: %d, error %d", field, v, e)
			}
		}
	}
}

// Promise 8.2: numbers at the ends of their types, and texts of any bytes.
func TestNumbersAndBytes(t *testing.T) {
	table := []int{64, 128, 1024}
	for _, n := range []uint64{0, 1, 255, 256, 1<<31 - 1, 1 << 31, 1<<32 - 1, 1 << 32, 1<<63 - 1, 1 << 63, 1<<64 - 1} {
		b := made(t, "gg")
		for _, x := range []Item{{Key: "a", Cas: n}, {Key: "a", Flags: uint32(n)}, {Key: "a", Exp: uint32(n)}, {Key: "a", Flags: uint32(n), Exp: uint32(n), Cas: n}} {
			b.mustWrite(table, []int{1000 - 64}, x, api.OK)
			if got, e := b.read(table, 1000-64); got != x || e != api.OK {
				t.Errorf("Read: %v, error %d, not %v", got, e, x)
			}
		}
	}
	for v := range 256 {
		b := made(t, "gg")
		x := Item{Key: strings.Repeat(string([]byte{byte(v)}), 1+v%32), Value: strings.Repeat(string([]byte{byte(v), byte(255 - v)}), v)}
		places := []int{1024}
		b.mustWrite(table, places, x, api.OK)
		if got, e := b.read(table, 1024); got != x || e != api.OK {
			t.Errorf("Read: %v, error %d", got, e)
		}
	}
}

// Promise 8.2: lengths that Need refuses, and tables.
func TestWriteRefusesLengths(t *testing.T) {
	b := made(t, "gg")
	for _, c := range []struct {
		table      []int
		key, value int
		e          api.Errno
	}{
		{[]int{64, 1024}, 0, 0, api.ErrRange}, {[]int{64, 1024}, 0, 5, api.ErrRange}, {[]int{64, 1024}, 33, 0, api.ErrRange}, {[]int{64, 1024}, 1, 2001, api.ErrRange},
		{[]int{64, 1024}, 300, 3, api.ErrRange}, {[]int{64, 1024}, 3, 5000, api.ErrRange}, {[]int{64, 1024}, 257, 3, api.ErrRange}, {[]int{64, 1024}, 3, 65536 + 3, api.ErrRange},
		{nil, 1, 0, api.ErrField}, {[]int{255}, 1, 0, api.ErrField}, {[]int{1024, 255}, 1, 0, api.ErrField}, {[]int{64}, 3, 5, api.ErrField},
		{nil, 0, 0, api.ErrRange}, {[]int{255}, 1, 2001, api.ErrRange},
	} {
		x := some(1, c.key, c.value)
		// The lengths and the table are told ahead of how many places there are, and where.
		for _, places := range [][]int{{0}, {}, nil, {0, 1024}, {-1}, {5000}, {0, 1024, -1}} {
			b.mustWrite(c.table, places, x, c.e)
		}
	}
}

// Promise 8.2: there must be just as many places as chunks; that is told ahead of where they are.
func TestWriteRefusesTheNumberOfPlaces(t *testing.T) {
	table := []int{64, 256}
	for value, want := range map[int]int{0: 1, 20: 1, 100: 1, 200: 1, 215: 1, 216: 2, 467: 2, 468: 3, 1000: 5, 2000: 9} {
		b := made(t, "gggg")
		x := some(uint64(value), 1, value)
		var all []int
		for at := 0; at < 4*size; at += 256 {
			all = append(all, at)
		}
		for n := range len(all) + 1 {
			e := api.ErrField
			if n == want {
				e = api.OK
			}
			b.mustWrite(table, all[:n], x, e)
			if n != want {
				wrong := slices.Repeat([]int{-1}, n)
				b.mustWrite(table, wrong, x, api.ErrField)
				b.mustWrite(table, slices.Repeat([]int{4 * size}, n), x, api.ErrField)
			}
		}
		b.mustWrite(table, nil, x, api.ErrField)
		b.mustWrite(table, []int{}, x, api.ErrField)
	}
}

// Promise 8.2: each address of the first chunk, and of a further one: where it does not lie within a granted page nothing is changed.
func TestWriteAtEachPlace(t *testing.T) {
	table := []int{64, 100, 300}
	for _, pages := range []string{"g", "gf", "fg", "gg", "gfg"} {
		b := made(t, pages)
		end := len(pages) * size
		for at := -310; at <= end+10; at++ {
			b.write(table, []int{at}, some(1, 3, 10))
			b.write(table, []int{at}, some(2, 32, 20))
			b.write(table, []int{at}, some(3, 20, 240))
		}
		b = made(t, pages)
		other := strings.Index(pages, "g") * size
		for at := -310; at <= end+10; at++ {
			if at > other-300 && at < other+300 {
				continue // they would have bytes in common
			}
			b.write(table, []int{other, at}, some(4, 5, 400))
			b.write(table, []int{at, other}, some(5, 5, 400))
			b.write(table, []int{at, other}, some(6, 32, 229))
		}
		for _, at := range farAways {
			b.write(table, []int{at}, some(1, 3, 10))
			b.write(table, []int{other, at}, some(4, 5, 400))
			b.write(table, []int{at, other}, some(4, 5, 400))
		}
	}
}

// Promise 8.2: places of which one alone is wrong, whichever it is: below 0, in a free page, over a page's end, behind the last page.
func TestWriteWhereOnePlaceIsWrong(t *testing.T) {
	table := []int{64, 256}
	right := []int{0, 256, 512, 768, 2048, 2304, 2560, 2816, 3072}
	for i := range right {
		for _, wrong := range []int{-1, -256, -1024, 1024, 1024 + 256, 769, 1023, 2817, 2048 + 1023, 1023 - 254, 4096, 4096 + 256, 3841, 4095, far, far + 256, math.MaxInt, math.MinInt} {
			b := made(t, "gfgg")
			places := slices.Clone(right)
			places[i] = wrong
			b.mustWrite(table, places, some(1, 32, 2000), api.ErrRange)
		}
	}
	b := made(t, "gfgg")
	b.mustWrite(table, right, some(1, 32, 2000), api.OK)
}

// Promise 8.2: a chunk lies within a granted page to its last byte, also to those that the item does not need, and the first chunk's size is that of its class.
func TestWriteAsksForWholeChunks(t *testing.T) {
	for _, pages := range []string{"g", "gf", "gg"} {
		b := made(t, pages)
		// The item needs 42 bytes of the 64, 85 of the 100, 41 of the 300 that the further chunk has.
		b.mustWrite([]int{64, 300}, []int{960}, some(1, 1, 1), api.OK)
		b.mustWrite([]int{64, 300}, []int{961}, some(1, 1, 1), api.ErrRange)
		b.mustWrite([]int{64, 100, 300}, []int{924}, some(2, 5, 40), api.OK)
		b.mustWrite([]int{64, 100, 300}, []int{925}, some(2, 5, 40), api.ErrRange)
		b.mustWrite([]int{64, 100, 300}, []int{0, 724}, some(3, 5, 292), api.OK)
		b.mustWrite([]int{64, 100, 300}, []int{0, 725}, some(3, 5, 292), api.ErrRange)
		b.mustWrite([]int{2000}, []int{0}, some(4, 5, 20), api.ErrRange)
		b.mustWrite([]int{1025}, []int{0}, some(4, 5, 20), api.ErrRange)
		b.mustWrite([]int{1024}, []int{0}, some(4, 5, 20), api.OK)
		b.mustWrite([]int{math.MaxInt}, []int{0}, some(4, 5, 20), api.ErrRange)
	}
}

// Promises 8.2 and 8.4: a chunk that ends with its page, and that the key fills: the value's 0 bytes lie nowhere, and are none.
func TestEmptyValueAtThePagesEnd(t *testing.T) {
	for _, pages := range []string{"g", "gf", "gg"} {
		for key := 1; key <= 32; key++ {
			b := made(t, pages)
			table := []int{40 + key, 1024}
			x := some(uint64(key), key, 0)
			b.mustWrite(table, []int{size - 40 - key}, x, api.OK)
			if got, e := b.read(table, size-40-key); got != x || e != api.OK {
				t.Fatalf("Read: %v, error %d", got, e)
			}
		}
	}
}

// Promise 8.2: an item whose bytes a test laid, not Write: each field comes from its own bytes, and nothing else.
func TestReadTold(t *testing.T) {
	b := made(t, "gg")
	b.lay(100, []byte{1, 2, 3, 4, 5, 6, 7, 8, 9, 10, 11, 12, 255, 255, 255, 255, 1, 2, 3, 4, 5, 6, 7, 8, 9, 10, 11, 140, 13, 14, 15, 160, 5, 0, 3, 77, 88, 99, 111, 222})
	b.lay(140, []byte("keyvalue"))
	want := Item{Key: "key", Value: "value", Cas: 0x0807060504030201, Exp: 0x8C0B0A09, Flags: 0xA00F0E0D}
	if got, e := Read(b.a, []int{64, 1024}, 100); got != want || e != api.OK {
		t.Errorf("Read: %v, error %d, not %v", got, e, want)
	}
	b.mustRead([]int{64, 1024}, 100, api.OK)
	// What the table says tells alone how far the first chunk goes.
	b.mustRead([]int{1024}, 100, api.OK)
	b.mustRead([]int{64, 256}, 100, api.OK)
	b.mustRead([]int{64, 255}, 100, api.ErrField)
	b.mustRead(nil, 100, api.ErrField)
	b.same("Reads")
}

// Promise 8.2: headers at each address, of which the last byte alone lies outside or all of them do.
func TestReadHeaderOutside(t *testing.T) {
	table := []int{64, 1024}
	for _, pages := range []string{"g", "gf", "fg", "gg", "gfg"} {
		b := made(t, pages)
		for at := -50; at <= len(pages)*size+50; at++ {
			if b.m.within(at, 40) {
				b.head(at, 1, 0, -1)
			}
			b.read(table, at)
			b.places(at)
		}
		for _, at := range append([]int{size - 39, size - 1, size * len(pages), size*len(pages) - 39, -1, -40}, farAways...) {
			b.mustRead(table, at, api.ErrRange)
			b.mustRead(nil, at, api.ErrRange)
			b.mustPlaces(at, api.ErrRange)
		}
	}
}

// Promise 8.2: headers of which some bytes lie outside, but no field that is asked for: they are told ahead of all else.
func TestHeaderOutsideBehindItsFields(t *testing.T) {
	for _, pages := range []string{"g", "gf", "gg"} {
		for out := 1; out <= 24; out++ {
			at := size - 40 + out
			b := made(t, pages)
			b.layNumber(at+12, 4, -1)
			b.mustPlaces(at, api.ErrRange)
			if out > 5 {
				continue
			}
			b.head(at, 1, 0, -1)
			b.mustPlaces(at, api.ErrRange)
			for _, table := range [][]int{{64, 1024}, {1024, 64}, {}, nil} {
				b.mustRead(table, at, api.ErrRange)
			}
		}
	}
}

// Promise 8.2: a key, and a value, of which the last byte alone lies outside, and of which all lies within.
func TestReadKeyAndValueOutside(t *testing.T) {
	table := []int{64, 1024}
	for _, pages := range []string{"g", "gf", "gg", "fg", "fgf", "fgg", "ggg"} {
		for page := range pages {
			if pages[page] == 'f' {
				continue
			}
			end := (page + 1) * size
			open := page+1 < len(pages) && pages[page+1] == 'g'
			for key := 1; key <= 32; key++ {
				b := made(t, pages)
				b.head(end-40-key, key, 0, -1)
				b.mustRead(table, end-40-key, api.OK)
				b.head(end-39-key, key, 0, -1)
				// Of a key the first byte of which is another page's all is there, where that is granted.
				e := api.ErrRange
				if open && key == 1 {
					e = api.OK
				}
				b.mustRead(table, end-39-key, e)
				for _, value := range []int{1, 2, 100, 600} {
					b.head(end-40-key-value, key, value, -1)
					b.mustRead(table, end-40-key-value, api.OK)
					b.head(end-39-key-value, key, value, -1)
					// Each byte of a value is asked by itself: the last one lies in the next page, if that is granted.
					e := api.ErrRange
					if open {
						e = api.OK
					}
					b.mustRead(table, end-39-key-value, e)
				}
			}
		}
	}
}

// Promise 8.2: a further chunk's value of which the last byte alone lies outside; of it the rest of the chunk needn't lie within.
func TestReadFurtherValueOutside(t *testing.T) {
	table := []int{64, 256}
	for _, pages := range []string{"g", "gf", "gg"} {
		for _, left := range []int{1, 2, 100, 252} {
			b := made(t, pages)
			b.head(0, 1, 215+left, size-4-left)
			b.layNumber(size-4-left, 4, -1)
			b.mustRead(table, 0, api.OK)
			b.head(0, 1, 215+left, size-3-left)
			e := api.ErrRange
			if left == 1 {
				b.layNumber(size-4, 4, -1)
			} else {
				b.layNumber(size-3-left, 4, -1)
			}
			if pages == "gg" {
				e = api.OK
			}
			b.mustRead(table, 0, e)
		}
		// The value's last byte in the last of nine chunks.
		b := made(t, "gggf")
		places := []int{0, 256, 512, 768, 1024, 1280, 1536, 1792, 0}
		for _, c := range []struct {
			last int
			e    api.Errno
		}{{2560, api.OK}, {3072 - 4 - 52, api.OK}, {3072 - 3 - 52, api.ErrRange}, {3068, api.ErrRange}} {
			places[8] = c.last
			b.head(0, 32, 2000, places[1])
			for i := 1; i < 8; i++ {
				b.layNumber(places[i], 4, int64(places[i+1]))
			}
			b.layNumber(c.last, 4, -1)
			b.mustRead(table, 0, c.e)
		}
	}
}

// Promise 8.2: all lengths that FKey may say, and those of FValue at which something changes.
func TestReadLengths(t *testing.T) {
	for _, table := range [][]int{{64, 1024}, {256}, {64, 255}, nil} {
		b := made(t, "ggg")
		b.layNumber(2048, 4, -1)
		for key := range 256 {
			for _, value := range []int{0, 1, 255, 256, 983, 984, 1000, 2000, 2001, 2002, 4096, 32767, 32768, 65535} {
				for _, more := range []int{-1, 2048} {
					b.head(1024, key, value, more)
					b.read(table, 1024)
				}
			}
		}
		b.head(1024, 0, 0, -1)
		b.mustRead(table, 1024, api.ErrRange)
		b.head(1024, 33, 0, -1)
		b.mustRead(table, 1024, api.ErrRange)
		b.head(1024, 255, 0, -1)
		b.mustRead(table, 1024, api.ErrRange)
		b.head(1024, 3, 2001, -1)
		b.mustRead(table, 1024, api.ErrRange)
		b.head(1024, 3, 65535, -1)
		b.mustRead(table, 1024, api.ErrRange)
	}
}

// Promise 8.2: a chain that ends too early, too late, or not at all.
func TestReadChain(t *testing.T) {
	table := []int{64, 256}
	for value, want := range map[int]int{0: 1, 215: 1, 216: 2, 467: 2, 468: 3, 1000: 5, 2000: 9} {
		for n := 1; n <= 20; n++ {
			b := made(t, "gggggg")
			b.head(0, 1, value, -1)
			at := 12
			for i := 1; i < n; i++ {
				b.layNumber(at, 4, int64(i*256))
				at = i * 256
			}
			b.layNumber(at, 4, -1)
			e := api.ErrField
			if n == want {
				e = api.OK
			}
			b.mustRead(table, 0, e)
		}
	}
	b := made(t, "gg")
	// An item whose FMore leads to itself has its FNext as the next place.
	b.head(512, 1, 300, 512)
	b.layNumber(512, 4, -1)
	b.mustPlaces(512, api.OK, 512, 512)
	b.mustRead(table, 512, api.OK)
	b.head(512, 1, 100, 512)
	b.mustRead(table, 512, api.ErrField)
	b.layNumber(512, 4, 512)
	b.mustPlaces(512, api.ErrField)
	b.mustRead(table, 512, api.ErrField)
	b.head(512, 1, 300, 512)
	b.mustRead(table, 512, api.ErrField)
	b.head(512, 1, 300, 524)
	b.layNumber(524, 4, 524)
	b.mustPlaces(512, api.ErrField)
}

// Promise 8.2: of two things that are wrong with an item the one is told that the document names first.
func TestReadWrongTwice(t *testing.T) {
	table := []int{64, 256}
	for _, c := range []struct {
		table            []int
		at               int
		key, value, more int
		e                api.Errno
		what             string
	}{
		{nil, 985, 1, 0, -1, api.ErrRange, "a header outside, and no table"},
		{table, 985, 0, 0, -1, api.ErrRange, "a header outside, and no key"},
		{nil, 512, 0, 0, -2, api.ErrRange, "no key, no table, no place"},
		{nil, 512, 1, 0, 5000, api.ErrField, "no table, a chunk outside"},
		{table, 512, 33, 0, -2, api.ErrRange, "too long a key, no place"},
		{table, 512, 1, 2001, -2, api.ErrRange, "too long a value, no place"},
		{[]int{255}, 512, 1, 0, 5000, api.ErrField, "a wrong table, a chunk outside"},
		{table, 512, 1, 0, 5000, api.ErrRange, "a chunk outside, and too many"},
		{table, 512, 1, 0, 1023, api.ErrRange, "a chunk outside, and too many"},
		{table, 980, 5, 0, 5000, api.ErrRange, "a chunk outside, a key outside"},
		{table, 980, 5, 0, -2, api.ErrField, "no place, a key outside"},
		{table, 980, 5, 0, 0, api.ErrField, "too many, a key outside"},
		{table, 980, 5, 300, -1, api.ErrField, "too few, a key outside"},
		{table, 970, 5, 100, 0, api.ErrField, "too many, a value outside"},
		{table, 970, 5, 300, -2, api.ErrField, "no place, a value outside"},
		{table, 970, 5, 300, 1021, api.ErrRange, "a chunk outside, a value outside"},
		{table, 980, 5, 100, -1, api.ErrRange, "a key outside, a value outside"},
		{table, 970, 5, 300, 0, api.ErrRange, "a value outside"},
		{table, 512, 5, 300, 0, api.OK, "nothing"},
	} {
		b := made(t, "gf")
		b.head(c.at, c.key, c.value, c.more)
		b.layNumber(0, 4, -1)
		if _, e := Read(b.a, c.table, c.at); e != c.e {
			t.Errorf("%s: error %d, not %d", c.what, e, c.e)
		}
		b.mustRead(c.table, c.at, c.e)
	}
}

// chain lays an item at 0 whose further chunks begin at those places; behind the last one lies what is told.
func (b *both) chain(last int64, places ...int) {
	b.t.Helper()
	at := 12
	for _, next := range places {
		b.layNumber(at, 4, int64(next))
		at = next
	}
	b.layNumber(at, 4, last)
}

// Promise 8.2: chains of each length up to some more than there may be, ended by none, by what is no place, by one outside, and by themselves.
func TestPlaces(t *testing.T) {
	for n := range 40 {
		var rest []int
		for i := range n {
			rest = append(rest, 2048-4*(i*7%40)-4)
		}
		all := append([]int{0}, rest...)
		b := made(t, "ggf")
		b.chain(-1, rest...)
		if len(all) <= 16 {
			b.mustPlaces(0, api.OK, all...)
		} else {
			b.mustPlaces(0, api.ErrField)
		}
		for _, none := range []int64{-2, -3, math.MinInt32, math.MinInt32 + 1, -1 << 30} {
			b.chain(none, rest...)
			b.mustPlaces(0, api.ErrField)
		}
		// A chunk outside is told ahead of there being too many, however many there are ahead of it.
		for _, outside := range []int64{1021, 1022, 1023, 2045, 2047, 2048, 2100, 3068, 3072, 4000, 1 << 20, math.MaxInt32} {
			b.chain(outside, rest...)
			b.mustPlaces(0, api.ErrRange)
		}
		for i := range rest {
			b.chain(int64(rest[i]), rest...)
			b.mustPlaces(0, api.ErrField)
		}
	}
}

// Promise 8.2: rings of all sizes that an arena of one page may have, and the longest chain that has an end.
func TestPlacesOfLongChains(t *testing.T) {
	var all []int
	for at := 40; at+4 <= size; at += 4 {
		all = append(all, at)
	}
	for n := 1; n <= len(all); n++ {
		b := made(t, "g")
		b.chain(int64(all[n/2]), all[:n]...)
		b.mustPlaces(0, api.ErrField)
		b.chain(1021, all[:n]...)
		b.mustPlaces(0, api.ErrRange)
	}
	b := made(t, strings.Repeat("g", 32))
	var most []int
	for at := 40; at+4 <= 32*size; at += 4 {
		most = append(most, at)
	}
	b.chain(-1, most...)
	b.mustPlaces(0, api.ErrField)
	b.chain(32*size-3, most...)
	b.mustPlaces(0, api.ErrRange)
	b.chain(40, most...)
	b.mustPlaces(0, api.ErrField)
}

// Promise 8.2: chunks whose places have bytes in common: the walk goes on by what lies there, as long as there is some way that was not gone.
func TestPlacesThatOverlap(t *testing.T) {
	for seed := range 300 {
		b := made(t, "g")
		// Small numbers everywhere, each in two bytes, so that most lead somewhere.
		list := noise(uint64(seed), size)
		for i := range list {
			switch {
			case i%4 == 1:
				list[i] %= 4
			case i%4 > 1:
				list[i] = 0
			}
		}
		b.lay(0, list)
		for at := 0; at < size; at += 4 {
			b.places(at)
		}
		b.layNumber(int(list[12])+256*int(list[13]), 4, -1)
		b.places(0)
	}
}

// Promise 8.2: a further chunk's first four bytes at each address.
func TestPlacesAtEachAddress(t *testing.T) {
	for _, pages := range []string{"g", "gg", "gf", "gfg"} {
		for at := 40; at <= len(pages)*size+8; at++ {
			b := made(t, pages)
			b.layNumber(12, 4, int64(at))
			if b.m.within(at, 4) {
				b.layNumber(at, 4, -1)
				b.mustPlaces(0, api.OK, 0, at)
			} else {
				b.mustPlaces(0, api.ErrRange)
			}
		}
	}
}

// Promise 8.3: where each field lies, and how wide it is, told by its bytes.
func TestFieldsTold(t *testing.T) {
	b := made(t, "gg")
	var list []byte
	for i := range 40 {
		list = append(list, byte(100-i))
	}
	b.lay(1000, list[:24])
	b.lay(1024, list[24:])
	b.lay(200, list)
	for field, want := range []int{0x61626364, 0x5D5E5F60, 0x595A5B5C, 0x55565758, 0, 0x494A4B4C, 0x45464748, 0x4344, 0x42, 0x41, 0x40, 0x3F} {
		if field == FCas {
			continue
		}
		if v, e := Get(b.a, 200, field); v != want || e != api.OK {
			t.Errorf("Get(200, %d): %x, error %d, not %x", field, v, e, want)
		}
		// A field is there, if its own bytes lie within a page: the header may go over its end.
		if v, e := Get(b.a, 1000, field); v != want || e != api.OK {
			t.Errorf("Get(1000, %d): %x, error %d, not %x", field, v, e, want)
		}
	}
	names := []int{FNext, FPrev, FAfter, FMore, FCas, FExp, FFlags, FValue, FKey, FSeg, FBits, FRefs}
	for i, field := range names {
		if field != i {
			t.Errorf("the field %d has the number %d", i, field)
		}
	}
}

// Promise 8.3: places, and numbers of four bytes, at the ends of what they may be.
func TestFieldsOfFourBytes(t *testing.T) {
	b := made(t, "g")
	for _, c := range []struct {
		v             int64
		place, number int
		e             api.Errno
	}{
		{0, 0, 0, api.OK}, {1, 1, 1, api.OK}, {1<<31 - 1, 1<<31 - 1, 1<<31 - 1, api.OK}, {1 << 31, 0, 1 << 31, api.ErrField}, {1<<31 + 1, 0, 1<<31 + 1, api.ErrField},
		{1<<32 - 2, 0, 1<<32 - 2, api.ErrField}, {1<<32 - 1, -1, 1<<32 - 1, api.OK},
	} {
		for _, f := range fields {
			if f.width != 4 {
				continue
			}
			b.layNumber(100+f.at, 4, c.v)
			want, we := c.number, api.OK
			if f.place {
				want, we = c.place, c.e
			}
			if v, e := Get(b.a, 100, f.field); v != want || e != we {
				t.Errorf("Get of field %d with %d: %d, error %d, not %d, error %d", f.field, c.v, v, e, want, we)
			}
		}
	}
}

// values are those that are held against each field's width: the least and the greatest that go into one, those beside them, and others far away.
var values = []int{-1, -2, -3, -128, -255, -256, -65536, math.MinInt32, math.MinInt32 + 1, -far, -far + 1, -far - 1, math.MinInt, math.MinInt + 1, 0, 1, 2, 127, 128, 254, 255, 256, 257,
	32767, 32768, 65534, 65535, 65536, 65537, 1 << 24, 1<<31 - 2, 1<<31 - 1, 1 << 31, 1<<31 + 1, 1<<32 - 2, 1<<32 - 1, 1 << 32, 1<<32 + 1, 1<<32 + 255, 1 << 40, 1 << 62, math.MaxInt - 1, math.MaxInt}

// Promise 8.3: each field is set to each value; what is refused changes nothing.
func TestSetValues(t *testing.T) {
	for _, f := range fields {
		for _, v := range values {
			b := made(t, "g")
			b.set(500, f.field, v)
			b.get(500, f.field)
		}
	}
	b := made(t, "g")
	for _, c := range []struct {
		field, v int
		e        api.Errno
	}{
		{FNext, -1, api.OK}, {FPrev, -1, api.OK}, {FAfter, -1, api.OK}, {FMore, -1, api.OK}, {FNext, -2, api.ErrField}, {FMore, -2, api.ErrField}, {FMore, 1<<31 - 1, api.OK},
		{FMore, 1 << 31, api.ErrField}, {FNext, 1<<32 - 1, api.ErrField}, {FCas, 0, api.ErrField}, {FCas, 5, api.ErrField}, {FCas, -1, api.ErrField},
		{FExp, -1, api.ErrField}, {FExp, 0, api.OK}, {FExp, 1<<32 - 1, api.OK}, {FExp, 1 << 32, api.ErrField}, {FFlags, 1<<32 - 1, api.OK}, {FFlags, 1 << 32, api.ErrField}, {FFlags, -1, api.ErrField},
		{FValue, 65535, api.OK}, {FValue, 65536, api.ErrField}, {FValue, -1, api.ErrField}, {FValue, 2001, api.OK}, {FKey, 255, api.OK}, {FKey, 256, api.ErrField}, {FKey, 33, api.OK},
		{FSeg, 255, api.OK}, {FSeg, 256, api.ErrField}, {FSeg, -1, api.ErrField}, {FBits, 255, api.OK}, {FBits, 256, api.ErrField}, {FRefs, 255, api.OK}, {FRefs, 256, api.ErrField}, {FRefs, -1, api.ErrField},
		{-1, 0, api.ErrField}, {12, 0, api.ErrField},
	} {
		if e := Set(b.a, 100, c.field, c.v); e != c.e {
			t.Errorf("Set of field %d to %d: error %d, not %d", c.field, c.v, e, c.e)
		}
		if c.e != api.OK {
			continue
		}
		if v, e := Get(b.a, 100, c.field); v != c.v || e != api.OK {
			t.Errorf("Get of field %d behind Set to %d: %d, error %d", c.field, c.v, v, e)
		}
	}
}

// Promise 8.3: fields that there are not, and FCas, wherever they are asked for and whatever the value is.
func TestFieldsThatAreNone(t *testing.T) {
	b := made(t, "gf")
	for _, field := range append([]int{FCas}, wrongFields...) {
		for _, at := range append([]int{0, 500, 984, 1000, 1024, 2048, -1}, farAways...) {
			if v, e := Get(b.a, at, field); v != 0 || e != api.ErrField {
				t.Errorf("Get(%d, %d): %d, error %d", at, field, v, e)
			}
			for _, v := range []int{0, 5, -1, -2, 256, 1 << 31, 1 << 32, math.MaxInt, math.MinInt} {
				if e := Set(b.a, at, field, v); e != api.ErrField {
					t.Errorf("Set(%d, %d, %d): error %d", at, field, v, e)
				}
			}
		}
	}
	b.same("calls that are refused")
}

// Promise 8.3: each field at each address near the ends of pages.
func TestFieldsAtEachAddress(t *testing.T) {
	for _, pages := range []string{"g", "gf", "fg", "gg", "gfg"} {
		b := made(t, pages)
		for at := -50; at <= len(pages)*size+50; at++ {
			for _, f := range fields {
				b.get(at, f.field)
				if (at+45)%size < 95 {
					b.set(at, f.field, at&127)
					b.set(at, f.field, -1)
					b.set(at, f.field, -2)
					b.set(at, f.field, 1<<40)
				}
			}
		}
		for _, at := range farAways {
			for _, f := range fields {
				b.get(at, f.field)
				for _, v := range []int{0, -1, -2, 1 << 40} {
					b.set(at, f.field, v)
				}
			}
		}
	}
}

// Promise 8.3: of two things that are wrong the one is told that the document names first: the field, then a number below 0, then where it lies, then what goes into it.
func TestFieldsWrongTwice(t *testing.T) {
	b := made(t, "gf")
	for _, c := range []struct {
		at, field, v int
		e            api.Errno
		what         string
	}{
		{1024, -1, -1, api.ErrField, "no field, outside, below 0"}, {1024, FCas, 0, api.ErrField, "FCas, outside"}, {1024, 12, 0, api.ErrField, "no field, outside"},
		{1024, FSeg, -1, api.ErrField, "outside, below 0"}, {-5000, FExp, -1, api.ErrField, "outside, below 0"}, {math.MaxInt, FFlags, math.MinInt, api.ErrField, "outside, below 0"},
		{1024, FSeg, 256, api.ErrRange, "outside, too great"}, {1024, FExp, 1 << 32, api.ErrRange, "outside, too great"}, {2048, FValue, 65536, api.ErrRange, "outside, too great"},
		{1024, FNext, -2, api.ErrRange, "outside, no place"}, {1024, FMore, 1 << 31, api.ErrRange, "outside, no place"}, {-5000, FPrev, -2, api.ErrRange, "outside, no place"},
		{1021, FNext, -2, api.ErrRange, "over the end, no place"}, {1024 - 33, FValue, 65536, api.ErrRange, "over the end, too great"}, {1024 - 33, FValue, -1, api.ErrField, "over the end, below 0"},
	} {
		if e := Set(b.a, c.at, c.field, c.v); e != c.e {
			t.Errorf("Set(%d, %d, %d) (%s): error %d, not %d", c.at, c.field, c.v, c.what, e, c.e)
		}
	}
	b.same("calls that are refused")
	b.layNumber(1012, 4, -2)
	if v, e := Get(b.a, 1000, FMore); v != 0 || e != api.ErrField {
		t.Errorf("Get of what is no place: %d, error %d", v, e)
	}
	if v, e := Get(b.a, 1012, FMore); v != 0 || e != api.ErrRange {
		t.Errorf("Get of a place outside: %d, error %d", v, e)
	}
}

// Promise 8.4: each field is set beside all others; they, the key and the value stay.
func TestSetLeavesAllElse(t *testing.T) {
	table := []int{64, 300}
	for _, f := range fields {
		if f.field == FCas {
			continue
		}
		b := made(t, "ggg")
		x := some(uint64(f.field), 7, 700)
		places := []int{100, 2048, 1024}
		b.mustWrite(table, places, x, api.OK)
		want := map[int]int{}
		for _, g := range fields {
			if g.field != FCas {
				want[g.field], _ = Get(b.a, 100, g.field)
			}
		}
		for _, v := range []int{0, 1, 85, 127, 200, 255} {
			if e := Set(b.a, 100, f.field, v); e != api.OK {
				t.Fatalf("Set of field %d to %d: error %d", f.field, v, e)
			}
			want[f.field] = v
			for field, v := range want {
				if got, e := Get(b.a, 100, field); got != v || e != api.OK {
					t.Errorf("field %d behind Set of field %d: %d, error %d, not %d", field, f.field, got, e, v)
				}
			}
			copy(b.m.bytes[100+f.at:], low(uint64(v), f.width))
			b.same("Set")
		}
		if f.field != FMore && f.field != FValue && f.field != FKey {
			got, e := Read(b.a, table, 100)
			y := x
			switch f.field {
			case FExp:
				y.Exp = 255
			case FFlags:
				y.Flags = 255
			}
			if got != y || e != api.OK {
				t.Errorf("Read behind Set of field %d: %v, error %d", f.field, got, e)
			}
		}
	}
}

// Promise 8.4: items beside one another stay as they are when one of them is written anew, or a field of it is set.
func TestItemsBesideOneAnother(t *testing.T) {
	table := []int{64, 128, 256}
	b := made(t, "gggg")
	items := map[int]Item{}
	for i := range 8 {
		at := i * 64
		items[at] = some(uint64(i), 1+i*3, 0)
		b.mustWrite(table, []int{at}, items[at], api.OK)
	}
	long := [][]int{{1024, 1536, 2048}, {1280, 1792, 2304}, {512, 768, 3840}}
	for i, places := range long {
		items[places[0]] = some(uint64(i+50), 9, 600+i)
		b.mustWrite(table, places, items[places[0]], api.OK)
	}
	for round := range 20 {
		for at := range items {
			got, e := Read(b.a, table, at)
			if got != items[at] || e != api.OK {
				t.Fatalf("Read(%d) in round %d: %v, error %d, not %v", at, round, got, e, items[at])
			}
		}
		at := round % 8 * 64
		items[at] = some(uint64(round+100), 1+round, 3)
		b.mustWrite(table, []int{at}, items[at], api.OK)
		places := long[round%3]
		items[places[0]] = some(uint64(round+200), 5+round, 500+round*4)
		b.mustWrite(table, places, items[places[0]], api.OK)
		b.set(at, FRefs, round)
		b.set(places[0], FNext, round*64)
	}
}

// Rule R4: what is handed in is not changed, nor what lies behind its end, and not kept; what is handed out is new memory.
func TestHandedInAndOut(t *testing.T) {
	b := made(t, "ggg")
	tableRoom := []int{64, 300, 7, 8, 9}
	placesRoom := []int{2048, 1024, 100, -5, -6}
	table, places := slices.Clone(tableRoom), slices.Clone(placesRoom)
	x := some(1, 5, 700)
	if e := Write(b.a, table[:2], places[:3], x); e != api.OK {
		t.Fatalf("Write: error %d", e)
	}
	if got, e := Read(b.a, table[:2], 2048); got != x || e != api.OK {
		t.Fatalf("Read: %v, error %d", got, e)
	}
	Need(table[:2], 5, 700)
	if !slices.Equal(table, tableRoom) || !slices.Equal(places, placesRoom) {
		t.Errorf("what was handed in is changed: %v, %v", table, places)
	}
	clear(table)
	clear(places)
	first, e1 := Places(b.a, 2048)
	second, e2 := Places(b.a, 2048)
	if e1 != api.OK || e2 != api.OK {
		t.Fatalf("Places: errors %d and %d", e1, e2)
	}
	clear(first[:cap(first)])
	if !slices.Equal(second, []int{2048, 1024, 100}) {
		t.Errorf("two answers of Places share memory: %v", second)
	}
	if got, e := Read(b.a, tableRoom[:2], 2048); got != x || e != api.OK {
		t.Errorf("Read behind a change of what was handed in and out: %v, error %d", got, e)
	}
}

// Rule R1: all calls end, and none panics, whatever they are given, also chunks that have bytes in common.
func TestCallsEnd(t *testing.T) {
	far := []int{math.MinInt, -1024, -1, 0, 1, 984, 1023, 1024, 2048, math.MaxInt - 40, math.MaxInt}
	some := some(1, 32, 2000)
	for _, size := range []int{math.MinInt, -4, 0, 1, 4, 40, 41, 255, 256, 257, 1024, 1025, 5000, math.MaxInt} {
		for _, last := range []int{math.MinInt, 0, 255, 256, 300, 1024, 1025, 2000, math.MaxInt} {
			b := made(t, "ggf")
			for _, at := range far {
				for _, key := range []int{0, 1, 32} {
					for _, value := range []int{0, 200, 250, 2000} {
						for _, places := range [][]int{{at}, {at, at}, slices.Repeat([]int{at}, 8), slices.Repeat([]int{at}, 9)} {
							x := Item{Key: some.Key[:key], Value: some.Value[:value]}
							Write(b.a, []int{size, last}, places, x)
							Read(b.a, []int{size, last}, at)
							Places(b.a, at)
						}
					}
				}
			}
		}
	}
}

// Promises 8.2 to 8.4: calls without order, right ones and wrong ones, in memory of which a part is free.
func TestManyCalls(t *testing.T) {
	for seed := range 60 {
		b := made(t, []string{"gggg", "gfgg", "ggfgg", "gg", "ggggggf"}[seed%5])
		table := tables[seed%len(tables)]
		dice := noise(uint64(seed)+1000, 8*150)
		for len(dice) > 0 {
			b.someCall(table, dice[:8])
			dice = dice[8:]
		}
	}
}

// someCall does the call that eight bytes without order tell.
func (b *both) someCall(table []int, dice []byte) {
	b.t.Helper()
	key := []int{1, 3, 17, 32, 0, 33, 5, 9}[dice[1]%8]
	value := []int{0, 1, int(dice[2]), int(dice[2]) * 4, int(dice[2]) * 7, 2000, 1500, 2001}[dice[3]%8]
	last := max(table[len(table)-1], 64)
	at := int(dice[4]) % (len(b.m.granted) * (size / last)) // a chunk
	at = at/(size/last)*size + at%(size/last)*last
	switch dice[0] % 8 {
	case 0, 1, 2:
		_, more, _ := need(table, key, value)
		places := []int{at}
		for i := range more + int(dice[5])/250 {
			n := int(dice[6]) + i
			page := n / (size / last) % len(b.m.granted)
			places = append(places, page*size+n%(size/last)*last)
		}
		if apart(places) {
			b.write(table, places, some(uint64(dice[7]), key, value))
		}
	case 3:
		b.read(table, at)
	case 4:
		b.places(at)
	case 5:
		b.read(table, at+int(dice[6])-128)
		b.places(at + int(dice[7]) - 128)
	case 6:
		b.set(at, int(dice[5])%14-1, []int{int(dice[6]), -1, int(dice[6]) * 300, at, -2, 1<<31 - 1, 33, 2001}[dice[7]%8])
	case 7:
		b.get(at+int(dice[6])%64, int(dice[5])%14-1)
	}
}

// apart tells whether no place is there twice.
func apart(places []int) bool {
	sorted := slices.Sorted(slices.Values(places))
	return len(slices.Compact(sorted)) == len(places)
}
