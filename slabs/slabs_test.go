package slabs

import (
	"bytes"
	"fmt"
	"math"
	"slices"
	"testing"

	"tallboy/api"
	"tallboy/arena"
)

// size is how many bytes a page has.
const size = 1024

// far is a whole number beyond all that an arena has, whose lowest 32 bits are 0.
const far = 1 << 32

// wrongClasses are those that no table has, of up to eight sizes; some have a right one as their lowest bits.
var wrongClasses = []int{-1, -2, -8, -9, -255, -256, 8, 9, 16, 31, 32, 255, 256, 1024, math.MaxInt32, math.MinInt32, far, far + 1, -far, -far + 1,
	math.MaxInt, math.MaxInt - 1, math.MinInt, math.MinInt + 1, math.MinInt + 2}

// wrongPages are numbers of pages that no arena has.
var wrongPages = []int{-1, -2, -31, -32, -33, -1024, 32, 33, 64, 256, 1024, 1 << 16, math.MaxInt32, math.MinInt32, far, far + 1, -far, -far + 1,
	1 << 54, 1<<54 + 1, 1 << 61, 1 << 62, math.MaxInt, math.MaxInt - 1, math.MinInt, math.MinInt + 1, math.MinInt + 2}

// farAways are addresses in no arena; some have a right one as their lowest bits.
var farAways = []int{-1, -2, -4, -8, -64, -1020, -1023, -1024, -1025, -2048, math.MinInt32, -far, -far + 64, math.MinInt, math.MinInt + 1, math.MinInt + 64,
	math.MinInt + 1024, 32 * size, 32*size + 64, 33 * size, 1 << 16, math.MaxInt32, 1 << 31, far, far + 64, far + 1024, 1 << 62,
	math.MaxInt, math.MaxInt - 1, math.MaxInt - 3, math.MaxInt - 63, math.MaxInt - 1023, math.MaxInt - 1024}

// tables are right ones: of one size and of eight, with those that leave bytes of a page, those that leave none, the least and the greatest ones.
var tables = [][]int{
	{64}, {4}, {1024}, {1023}, {5}, {64, 1024}, {4, 1024}, {4, 5}, {511, 512, 513}, {341, 342, 1024}, {96, 1000},
	{64, 96, 144, 216, 328, 496, 1024}, {64, 72, 80, 88, 96, 104, 112, 1024}, {4, 5, 6, 7, 8, 9, 10, 11}, {1017, 1018, 1019, 1020, 1021, 1022, 1023, 1024},
}

// want is slabs by the document's words: what class each page is of, each class's list, and what lies in chunks that are used.
type want struct {
	table []int
	owner []int
	lists [][]int
	used  map[int][]byte
}

// both are slabs, and what they must be.
type both struct {
	t    *testing.T
	a    *arena.Arena
	s    *Slabs
	w    *want
	seed byte
}

// made are new slabs, and what they must be.
func made(t *testing.T, pages int, table ...int) *both {
	t.Helper()
	a, e := arena.New(pages)
	if e != api.OK {
		t.Fatalf("an arena of %d pages: error %d", pages, e)
	}
	s, e := New(a, table)
	if e != api.OK || s == nil {
		t.Fatalf("New(%v): error %d", table, e)
	}
	w := &want{table: slices.Clone(table), lists: make([][]int, len(table)), used: map[int][]byte{}}
	for range pages {
		w.owner = append(w.owner, -1)
	}
	return &both{t: t, a: a, s: s, w: w}
}

// full are slabs of as many pages of each class as told, all of whose chunks are used.
func full(t *testing.T, table []int, classes ...int) *both {
	t.Helper()
	m := made(t, len(classes), table...)
	for _, class := range classes {
		m.page(class)
	}
	return m
}

// page has one more page granted to a class, all of whose chunks are used.
func (m *both) page(class int) {
	m.t.Helper()
	m.alloc(class)
	for range slices.Clone(m.w.lists[class]) {
		m.alloc(class)
	}
}

// noise is n bytes without order, others for each seed.
func noise(seed uint64, n int) []byte {
	v := 88172645463325252 + seed*0x9E3779B97F4A7C15
	b := make([]byte, n)
	for i := range b {
		v ^= v << 13
		v ^= v >> 7
		v ^= v << 17
		b[i] = byte(v >> 24)
	}
	return b
}

// isClass tells whether there is to be such a class.
func (w *want) isClass(class int) bool { return class >= 0 && class < len(w.table) }

// chunks are where those of a page are to begin, told by counting on; none of a page that is of no class of the table.
func (w *want) chunks(page int) []int {
	if !w.isClass(w.owner[page]) {
		return nil
	}
	var list []int
	n := w.table[w.owner[page]]
	for at := page * size; at+n <= (page+1)*size; at += n {
		list = append(list, at)
	}
	return list
}

// class is that of the chunk that is to begin at an address, and whether one is.
func (w *want) class(at int) (int, bool) {
	for page, class := range w.owner {
		if !within(page)(at) || !w.isClass(class) {
			continue
		}
		for begin := page * size; begin+w.table[class] <= (page+1)*size; begin += w.table[class] {
			if begin == at {
				return class, true
			}
		}
	}
	return 0, false
}

// isFree tells whether a chunk is to be free.
func (w *want) isFree(at int) bool {
	class, there := w.class(at)
	return there && slices.Contains(w.lists[class], at)
}

// pageError is what is to be told of a page's number, ahead of all else.
func (w *want) pageError(page int) api.Errno {
	switch {
	case page < 0 || page >= len(w.owner):
		return api.ErrRange
	case !w.isClass(w.owner[page]):
		return api.ErrState
	}
	return api.OK
}

// least is the free page with the least number, and whether there is one.
func (w *want) least() (int, bool) {
	at := slices.Index(w.owner, -1)
	return at, at >= 0
}

// grant is a page that a class is to have from now on.
func (w *want) grant(page, class int) {
	w.owner[page] = class
	w.lists[class] = append(w.chunks(page), w.lists[class]...)
}

// within tells whether an address lies in a page.
func within(page int) func(at int) bool {
	return func(at int) bool { return at >= page*size && at < (page+1)*size }
}

// leave is a list without some of it.
func leave(list []int, goes func(int) bool) []int {
	var rest []int
	for _, at := range list {
		if !goes(at) {
			rest = append(rest, at)
		}
	}
	return rest
}

// freeIn is how many chunks of a page are to be free.
func (w *want) freeIn(page int) int {
	n := 0
	for _, list := range w.lists {
		n += len(list) - len(leave(list, within(page)))
	}
	return n
}

// memory is all that an arena has: whose each page is, and its bytes.
func (m *both) memory() string {
	var b []byte
	for page := range m.a.Pages() {
		class, _ := m.a.Owner(page)
		all, _ := m.a.Read(page*size, size)
		b = append(append(b, byte(class)), all...)
	}
	return string(b)
}

// refused looks whether a call that answered an error changed the memory.
func (m *both) refused(before string, e api.Errno, call string, args ...any) {
	m.t.Helper()
	if e != api.OK && m.memory() != before {
		m.t.Fatalf("%s: error %d, but the memory is changed", fmt.Sprintf(call, args...), e)
	}
}

// fill lays other bytes into a chunk that is used, as its user.
func (m *both) fill(at int) {
	m.t.Helper()
	class, _ := m.w.class(at)
	m.seed++
	b := noise(uint64(m.seed), m.w.table[class])
	if e := m.a.Write(at, b); e != api.OK {
		m.t.Fatalf("bytes written into the chunk at %d: error %d", at, e)
	}
	m.w.used[at] = b
}

// alloc does an Alloc, holds its answer against what it must be, and looks whether the chunk's bytes are 0.
func (m *both) alloc(class int) {
	m.t.Helper()
	before, at, e := m.memory(), 0, api.OK
	if !m.w.isClass(class) {
		e = api.ErrRange
	} else if least, there := m.w.least(); len(m.w.lists[class]) == 0 && !there {
		e = api.ErrFull
	} else {
		if len(m.w.lists[class]) == 0 {
			m.w.grant(least, class)
		}
		at = m.w.lists[class][0]
		m.w.lists[class] = m.w.lists[class][1:]
	}
	if got, ge := m.s.Alloc(class); got != at || ge != e {
		m.t.Fatalf("Alloc(%d): %d, error %d, not %d, error %d", class, got, ge, at, e)
	}
	m.refused(before, e, "Alloc(%d)", class)
	if e != api.OK {
		return
	}
	n := m.w.table[class]
	if b, e := m.a.Read(at, n); e != api.OK || !bytes.Equal(b, make([]byte, n)) {
		m.t.Fatalf("Alloc(%d): the bytes at %d: % x, error %d", class, at, b, e)
	}
	m.fill(at)
}

// free does a Free, and holds its answer against what it must be.
func (m *both) free(at int) {
	m.t.Helper()
	before, e := m.memory(), api.OK
	if class, there := m.w.class(at); !there {
		e = api.ErrRange
	} else if m.w.isFree(at) {
		e = api.ErrTwice
	} else {
		m.w.lists[class] = append([]int{at}, m.w.lists[class]...)
		delete(m.w.used, at)
	}
	if got := m.s.Free(at); got != e {
		m.t.Fatalf("Free(%d): error %d, not %d", at, got, e)
	}
	m.refused(before, e, "Free(%d)", at)
}

// hold does a Hold, and holds its answer against what it must be.
func (m *both) hold(at int) {
	m.t.Helper()
	before, e := m.memory(), api.OK
	if class, there := m.w.class(at); !there {
		e = api.ErrRange
	} else if !m.w.isFree(at) {
		e = api.ErrTwice
	} else {
		m.w.lists[class] = leave(m.w.lists[class], func(free int) bool { return free == at })
	}
	if got := m.s.Hold(at); got != e {
		m.t.Fatalf("Hold(%d): error %d, not %d", at, got, e)
	}
	m.refused(before, e, "Hold(%d)", at)
	if e == api.OK {
		m.fill(at)
	}
}

// release does a Release, and holds its answer against what it must be.
func (m *both) release(page int) {
	m.t.Helper()
	before, e := m.memory(), m.w.pageError(page)
	if e == api.OK && m.w.freeIn(page) < len(m.w.chunks(page)) {
		e = api.ErrBusy
	}
	if e == api.OK {
		class := m.w.owner[page]
		m.w.lists[class] = leave(m.w.lists[class], within(page))
		m.w.owner[page] = -1
	}
	if got := m.s.Release(page); got != e {
		m.t.Fatalf("Release(%d): error %d, not %d", page, got, e)
	}
	m.refused(before, e, "Release(%d)", page)
}

// move does a Move, and holds its answer against what it must be.
func (m *both) move(page, class int) {
	m.t.Helper()
	before, e := m.memory(), m.w.pageError(page)
	if e == api.OK && !m.w.isClass(class) {
		e = api.ErrRange
	}
	if e == api.OK && m.w.freeIn(page) > 0 {
		e = api.ErrBusy
	}
	if least, there := m.w.least(); e == api.OK && there && least < page {
		e = api.ErrState
	}
	if e == api.OK {
		for _, at := range m.w.chunks(page) {
			delete(m.w.used, at)
		}
		m.w.grant(page, class)
	}
	if got := m.s.Move(page, class); got != e {
		m.t.Fatalf("Move(%d, %d): error %d, not %d", page, class, got, e)
	}
	m.refused(before, e, "Move(%d, %d)", page, class)
}

// place holds what is told of an address against what it must be.
func (m *both) place(at int) {
	m.t.Helper()
	class, there := m.w.class(at)
	e := api.ErrRange
	if there {
		e = api.OK
	}
	if got, ge := m.s.Class(at); got != class || ge != e {
		m.t.Fatalf("Class(%d): %d, error %d, not %d, error %d", at, got, ge, class, e)
	}
	if got := m.s.IsFree(at); got != m.w.isFree(at) {
		m.t.Fatalf("IsFree(%d): %t", at, got)
	}
}

// chunks holds what is told of a page against what it must be.
func (m *both) chunks(page int) {
	m.t.Helper()
	e := m.w.pageError(page)
	var list []int
	if e == api.OK {
		list = m.w.chunks(page)
	}
	if got, ge := m.s.Chunks(page); ge != e || !slices.Equal(got, list) {
		m.t.Fatalf("Chunks(%d): %v, error %d, not %v, error %d", page, got, ge, list, e)
	}
}

// counts holds what is told of a class against what it must be.
func (m *both) counts(class int) {
	m.t.Helper()
	free, used, pages := 0, 0, 0
	if m.w.isClass(class) {
		for page, owner := range m.w.owner {
			if owner == class {
				pages++
				free += m.w.freeIn(page)
				used += len(m.w.chunks(page)) - m.w.freeIn(page)
			}
		}
	}
	if f, u, p := m.s.Counts(class); f != free || u != used || p != pages {
		m.t.Fatalf("Counts(%d): %d, %d, %d, not %d, %d, %d", class, f, u, p, free, used, pages)
	}
}

// same holds all that the slabs tell, the lists' places, and the bytes of chunks that are used, against what they must be.
func (m *both) same(after string) {
	m.t.Helper()
	for page := -1; page <= len(m.w.owner); page++ {
		m.chunks(page)
	}
	for class := -1; class <= len(m.w.table); class++ {
		m.counts(class)
	}
	for page, class := range m.w.owner {
		if got, e := m.a.Owner(page); got != class || e != api.OK {
			m.t.Fatalf("page %d behind %s: of class %d, error %d, not %d", page, after, got, e, class)
		}
		for _, at := range m.w.chunks(page) {
			m.place(at)
			m.place(at + 1)
		}
	}
	for class, list := range m.w.lists {
		for i, at := range list {
			next := -1
			if i+1 < len(list) {
				next = list[i+1]
			}
			if got, e := m.a.Place(at); got != next || e != api.OK {
				m.t.Fatalf("list %d behind %s: behind %d is %d, error %d, not %d", class, after, at, got, e, next)
			}
		}
	}
	m.bytes(after)
}

// bytes looks whether each chunk that is used has its user's bytes.
func (m *both) bytes(after string) {
	m.t.Helper()
	for at, b := range m.w.used {
		if got, e := m.a.Read(at, len(b)); e != api.OK || !bytes.Equal(got, b) {
			m.t.Fatalf("the bytes of the chunk at %d behind %s: error %d, or changed", at, after, e)
		}
	}
}

// everyPlace asks of each address of the arena, and of those near its ends.
func (m *both) everyPlace() {
	m.t.Helper()
	for at := -size - 5; at <= (len(m.w.owner)+1)*size+5; at++ {
		m.place(at)
	}
	for _, at := range farAways {
		m.place(at)
	}
}

// drain takes all chunks that are free, so that each list's order is seen from its first one on.
func (m *both) drain() {
	m.t.Helper()
	for class, list := range m.w.lists {
		for range list {
			m.alloc(class)
		}
	}
	m.same("an Alloc of all chunks that are free")
}

// list tells what a class's list is to be, so that a test's own words stand beside what is reckoned.
func (m *both) list(class int, want ...int) {
	m.t.Helper()
	if !slices.Equal(m.w.lists[class], want) {
		m.t.Fatalf("list %d: %v, not %v", class, m.w.lists[class], want)
	}
	m.same("what made the list")
}

// Promise 7.1: the chapter's example.
func TestExample(t *testing.T) {
	a, _ := arena.New(2)
	s, e := New(a, []int{64, 1024})
	if e != api.OK {
		t.Fatalf("New: error %d", e)
	}
	for i, c := range []struct {
		class, at int
		e         api.Errno
	}{{0, 0, api.OK}, {0, 64, api.OK}, {1, 1024, api.OK}, {1, 0, api.ErrFull}} {
		if i == 2 {
			if e := s.Free(0); e != api.OK {
				t.Errorf("Free(0): error %d", e)
			}
			if at, e := s.Alloc(0); at != 0 || e != api.OK {
				t.Errorf("Alloc behind Free: %d, error %d", at, e)
			}
		}
		if at, e := s.Alloc(c.class); at != c.at || e != c.e {
			t.Errorf("Alloc %d: %d, error %d, not %d, error %d", i, at, e, c.at, c.e)
		}
	}
	if e := s.Free(5); e != api.ErrRange {
		t.Errorf("Free(5): error %d", e)
	}
}

// Promise 7.1: which tables are right.
func TestTables(t *testing.T) {
	for _, c := range []struct {
		table []int
		e     api.Errno
	}{
		// how many sizes: none, one, eight, nine and more
		{nil, api.ErrField}, {[]int{}, api.ErrField}, {make([]int, 0, 8), api.ErrField}, {[]int{64}, api.OK}, {[]int{64, 72}, api.OK},
		{[]int{4, 5, 6, 7, 8, 9, 10}, api.OK}, {[]int{4, 5, 6, 7, 8, 9, 10, 11}, api.OK}, {[]int{4, 5, 6, 7, 8, 9, 10, 11, 12}, api.ErrField},
		{[]int{4, 5, 6, 7, 8, 9, 10, 11, 12, 13}, api.ErrField}, {[]int{64, 72, 80, 88, 96, 104, 112, 120, 1024}, api.ErrField},
		// the least size and the greatest one
		{[]int{3}, api.ErrField}, {[]int{4}, api.OK}, {[]int{5}, api.OK}, {[]int{1023}, api.OK}, {[]int{1024}, api.OK}, {[]int{1025}, api.ErrField},
		{[]int{3, 64}, api.ErrField}, {[]int{4, 64}, api.OK}, {[]int{64, 1024}, api.OK}, {[]int{64, 1025}, api.ErrField}, {[]int{4, 1024}, api.OK}, {[]int{3, 1025}, api.ErrField},
		{[]int{0}, api.ErrField}, {[]int{1}, api.ErrField}, {[]int{2}, api.ErrField}, {[]int{-1}, api.ErrField}, {[]int{-64}, api.ErrField}, {[]int{-64, 64}, api.ErrField},
		{[]int{0, 64}, api.ErrField}, {[]int{math.MinInt}, api.ErrField}, {[]int{math.MaxInt}, api.ErrField}, {[]int{math.MinInt, math.MaxInt}, api.ErrField},
		{[]int{far + 64}, api.ErrField}, {[]int{64, far + 96}, api.ErrField}, {[]int{-far + 64}, api.ErrField}, {[]int{64, math.MaxInt}, api.ErrField}, {[]int{64, math.MinInt}, api.ErrField},
		// sizes that do not rise: the first two, the last two, in the midst, all of them
		{[]int{64, 64}, api.ErrField}, {[]int{64, 63}, api.ErrField}, {[]int{64, 65}, api.OK}, {[]int{65, 64, 96}, api.ErrField}, {[]int{64, 64, 96}, api.ErrField},
		{[]int{64, 96, 96}, api.ErrField}, {[]int{64, 96, 95}, api.ErrField}, {[]int{64, 96, 64}, api.ErrField}, {[]int{64, 96, 80, 1024}, api.ErrField}, {[]int{64, 96, 96, 1024}, api.ErrField},
		{[]int{1024, 512, 64}, api.ErrField}, {[]int{1024, 1024}, api.ErrField}, {[]int{4, 4}, api.ErrField}, {[]int{64, 1024, 512}, api.ErrField}, {[]int{64, 1025, 1024}, api.ErrField},
		{[]int{64, 3}, api.ErrField}, {[]int{64, 0}, api.ErrField}, {[]int{5, 4, 6, 7, 8, 9, 10, 11}, api.ErrField}, {[]int{4, 5, 6, 7, 8, 9, 11, 10}, api.ErrField},
	} {
		a, _ := arena.New(2)
		s, e := New(a, c.table)
		if e != c.e || (s == nil) != (c.e != api.OK) {
			t.Errorf("New(%v): slabs: %t, error %d, not %d", c.table, s != nil, e, c.e)
		}
		// What is wrong with the table is told ahead of a page that is granted.
		a.Grant(1)
		both := c.e
		if both == api.OK {
			both = api.ErrState
		}
		if s, e := New(a, c.table); e != both || s != nil {
			t.Errorf("New(%v) where a page is granted: slabs: %t, error %d, not %d", c.table, s != nil, e, both)
		}
	}
}

// Promise 7.1: each size that there may be, and those near it.
func TestSizes(t *testing.T) {
	a, _ := arena.New(1)
	for n := -1100; n <= 2100; n++ {
		want := api.OK
		if n < 4 || n > 1024 {
			want = api.ErrField
		}
		if s, e := New(a, []int{n}); e != want || (s == nil) != (want != api.OK) {
			t.Errorf("New of size %d: error %d, not %d", n, e, want)
		}
	}
	if a.Free() != 1 {
		t.Errorf("New granted a page")
	}
}

// Promise 7.1: an arena with a page that is granted is refused, whichever it is; one whose pages came back is taken.
func TestArenaThatIsUsed(t *testing.T) {
	for pages := 1; pages <= 32; pages++ {
		for _, page := range []int{0, pages / 2, pages - 1} {
			a, _ := arena.New(pages)
			for range pages {
				a.Grant(7)
			}
			for p := range pages {
				if s, e := New(a, []int{64}); s != nil || e != api.ErrState {
					t.Fatalf("New where %d of %d pages are granted: slabs: %t, error %d", pages-p, pages, s != nil, e)
				}
				if p != page {
					a.Return(p)
				}
			}
			if s, e := New(a, []int{64}); s != nil || e != api.ErrState {
				t.Fatalf("New where page %d alone is granted: slabs: %t, error %d", page, s != nil, e)
			}
			a.Return(page)
			if s, e := New(a, []int{64}); s == nil || e != api.OK || a.Free() != pages {
				t.Fatalf("New where all %d pages came back: slabs: %t, error %d", pages, s != nil, e)
			}
		}
	}
}

// Promises 7.1 and 7.2: new slabs have no chunks.
func TestNoChunks(t *testing.T) {
	for _, table := range tables {
		m := made(t, 3, table...)
		m.same("New")
		m.everyPlace()
		for _, at := range append([]int{0, 4, 64, 1023, 1024, 2048, 3071, 3072}, farAways...) {
			m.free(at)
			m.hold(at)
		}
		for page := range 3 {
			m.release(page)
			m.move(page, 0)
		}
		m.same("calls that are refused")
	}
}

// Promise 7.1: chunks of each class are taken from the least place on, till no page is free, and from none else.
func TestAllocOfAll(t *testing.T) {
	for _, table := range tables {
		for class := range table {
			m := made(t, 2, table...)
			for page := range 2 {
				for at := page * size; at+table[class] <= (page+1)*size; at += table[class] {
					if got, e := m.s.Alloc(class); got != at || e != api.OK {
						t.Fatalf("Alloc(%d) of %v: %d, error %d, not %d", class, table, got, e, at)
					}
				}
			}
			for other := range table {
				if at, e := m.s.Alloc(other); at != 0 || e != api.ErrFull {
					t.Fatalf("Alloc(%d) of %v where no page is free: %d, error %d", other, table, at, e)
				}
			}
		}
	}
}

// Promise 7.1: classes that there are not, also where no page is free (that is told behind it).
func TestClassesThatAreNone(t *testing.T) {
	for _, table := range tables {
		m, none := made(t, 2, table...), made(t, 1, table...)
		none.alloc(0)
		none.drain()
		m.alloc(0)
		for _, class := range append([]int{len(table), len(table) + 1, -len(table)}, wrongClasses...) {
			m.alloc(class)
			none.alloc(class)
			m.counts(class)
			if at, e := none.s.Alloc(class); at != 0 || e != api.ErrRange {
				t.Errorf("Alloc(%d) of %v where no page is free: %d, error %d", class, table, at, e)
			}
		}
		m.same("calls that are refused")
		none.same("calls that are refused")
		m.drain()
	}
}

// Promise 7.1: a page is granted where a list is empty, and only there; it is the free one with the least number.
func TestWhenAPageIsGranted(t *testing.T) {
	m := made(t, 4, 400, 600)
	m.alloc(0)
	m.alloc(1)
	m.list(0, 400)
	m.alloc(0)
	m.list(0)
	m.alloc(0)
	m.list(0, 2448)
	m.alloc(1)
	m.alloc(1)
	m.alloc(0)
	m.alloc(0)
	m.free(1024)
	m.release(1)
	m.alloc(0)
	m.list(0, 1424)
	m.drain()
}

// Promise 7.1: the bytes of a chunk are 0 when it is taken, whatever it had, those behind its place as well.
func TestBytesAreNought(t *testing.T) {
	for _, table := range tables {
		for class := range table {
			m := full(t, table, class, class)
			for page := range 2 {
				for _, at := range m.w.chunks(page) {
					m.free(at)
					m.alloc(class)
				}
			}
			for page := range 2 {
				for _, at := range m.w.chunks(page) {
					m.free(at)
				}
			}
			m.drain()
		}
	}
}

// Promise 7.1: a chunk that is given back is the next one to be taken; the last one that was given back first.
func TestLastGivenBackIsFirst(t *testing.T) {
	m := full(t, []int{200}, 0, 0)
	for _, at := range []int{200, 1024, 0, 1824, 800} {
		m.free(at)
		m.same("Free")
	}
	m.list(0, 800, 1824, 0, 1024, 200)
	m.alloc(0)
	m.free(400)
	m.list(0, 400, 1824, 0, 1024, 200)
	m.drain()
}

// Promise 7.1: what Free refuses: places below 0, in free pages, behind the last page, no multiples of their page's size,
// behind the last chunk that lies whole in a page, and chunks that are free.
func TestFreeRefuses(t *testing.T) {
	for _, table := range tables {
		m := made(t, len(table)+1, table...)
		for class := range table {
			m.page(class)
		}
		for class, n := range table {
			begin := class * size
			last := begin + size/n*n
			for _, at := range []int{begin + 1, begin + n - 1, begin + n + 1, last - 1, last + 1, begin + size - 1, begin + 2, begin + 3, last} {
				if _, there := m.w.class(at); !there {
					m.free(at)
				}
			}
		}
		end := len(table) * size
		for _, at := range append([]int{end, end + 1, end + table[0], end + size - 1, end + size, end + 2*size}, farAways...) {
			if e := m.s.Free(at); e != api.ErrRange {
				t.Errorf("Free(%d) of %v: error %d", at, table, e)
			}
		}
		m.same("calls that are refused")
		for page := range table {
			for _, at := range m.w.chunks(page) {
				m.free(at)
				m.free(at)
			}
		}
		m.same("Free of all, twice")
		m.drain()
	}
}

// Promises 7.1 and 7.3: each address of pages of several classes: where a chunk begins is given back once, and held once; nowhere else.
func TestEachPlaceIsGivenBackAndHeld(t *testing.T) {
	table := []int{5, 96, 300, 1000}
	m := made(t, 5, table...)
	for _, class := range []int{1, 0, 3, 2} {
		m.page(class)
	}
	for at := -70; at <= 5*size+70; at++ {
		_, there := m.w.class(at)
		wants := []api.Errno{api.ErrRange, api.ErrRange, api.ErrRange, api.ErrRange}
		if there {
			wants = []api.Errno{api.OK, api.ErrTwice, api.OK, api.ErrTwice}
		}
		for i, call := range []func(int) api.Errno{m.s.Free, m.s.Free, m.s.Hold, m.s.Hold} {
			if e := call(at); e != wants[i] {
				t.Errorf("call %d of %d: error %d, not %d", i, at, e, wants[i])
			}
		}
		if there {
			m.fill(at)
		}
	}
	m.same("all of it")
}

// Promise 7.2: what is told of each address, of pages of several classes some of whose chunks are free.
func TestEachPlace(t *testing.T) {
	for _, table := range tables {
		m := made(t, min(len(table), 4)+1, table...)
		for class := range min(len(table), 4) {
			m.page(class)
			for i, at := range m.w.chunks(class) {
				if i%3 == 1 {
					m.free(at)
				}
			}
		}
		m.everyPlace()
		m.same("questions")
		m.drain()
	}
}

// Promise 7.2: Class, IsFree, Counts and Chunks, told one by one.
func TestTold(t *testing.T) {
	m := made(t, 4, 64, 96, 400)
	m.alloc(1)
	m.alloc(2)
	m.alloc(2)
	m.alloc(2)
	for _, c := range []struct {
		at, class int
		e         api.Errno
		free      bool
	}{
		{0, 1, api.OK, false}, {96, 1, api.OK, true}, {864, 1, api.OK, true}, {64, 0, api.ErrRange, false}, {95, 0, api.ErrRange, false}, {97, 0, api.ErrRange, false},
		{960, 0, api.ErrRange, false}, {1023, 0, api.ErrRange, false}, {1024, 2, api.OK, false}, {1424, 2, api.OK, false}, {1824, 0, api.ErrRange, false},
		{1056, 0, api.ErrRange, false}, {2048, 2, api.OK, false}, {2448, 2, api.OK, true}, {2449, 0, api.ErrRange, false}, {2848, 0, api.ErrRange, false},
		{3072, 0, api.ErrRange, false}, {4096, 0, api.ErrRange, false}, {-1, 0, api.ErrRange, false}, {-96, 0, api.ErrRange, false}, {-1024, 0, api.ErrRange, false},
	} {
		if class, e := m.s.Class(c.at); class != c.class || e != c.e {
			t.Errorf("Class(%d): %d, error %d, not %d, error %d", c.at, class, e, c.class, c.e)
		}
		if free := m.s.IsFree(c.at); free != c.free {
			t.Errorf("IsFree(%d): %t", c.at, free)
		}
	}
	for _, c := range []struct{ class, free, used, pages int }{{0, 0, 0, 0}, {1, 9, 1, 1}, {2, 1, 3, 2}, {3, 0, 0, 0}, {-1, 0, 0, 0}} {
		if free, used, pages := m.s.Counts(c.class); free != c.free || used != c.used || pages != c.pages {
			t.Errorf("Counts(%d): %d, %d, %d, not %v", c.class, free, used, pages, c)
		}
	}
	for _, c := range []struct {
		page   int
		chunks []int
		e      api.Errno
	}{
		{0, []int{0, 96, 192, 288, 384, 480, 576, 672, 768, 864}, api.OK}, {1, []int{1024, 1424}, api.OK}, {2, []int{2048, 2448}, api.OK},
		{3, nil, api.ErrState}, {4, nil, api.ErrRange}, {-1, nil, api.ErrRange},
	} {
		if chunks, e := m.s.Chunks(c.page); e != c.e || !slices.Equal(chunks, c.chunks) {
			t.Errorf("Chunks(%d): %v, error %d, not %v, error %d", c.page, chunks, e, c.chunks, c.e)
		}
	}
	m.drain()
}

// Promises 7.2 and 7.3: pages that there are not, whatever the class.
func TestPagesThatAreNone(t *testing.T) {
	for _, pages := range []int{1, 2, 32} {
		m := made(t, pages, 64, 1024)
		m.alloc(1)
		for _, page := range append([]int{pages, pages + 1, -pages}, wrongPages...) {
			m.chunks(page)
			m.release(page)
			for _, class := range []int{0, 1, 2, -1} {
				m.move(page, class)
			}
		}
		m.same("calls that are refused")
	}
}

// Promises 7.2 and 7.3: a page that is of no class of the table has no chunks, is not given back, and does not move.
func TestPageOfNoClass(t *testing.T) {
	for class := 1; class < 8; class++ {
		m := made(t, 3, 64)
		m.alloc(0)
		if page, e := m.a.Grant(class); page != 1 || e != api.OK {
			t.Fatalf("Grant(%d): %d, error %d", class, page, e)
		}
		m.w.owner[1] = class
		for range 16 {
			m.alloc(0)
		}
		m.same("Alloc behind a page of no class")
		for _, at := range []int{1024, 1088, 1025, 2047} {
			m.place(at)
			m.free(at)
			m.hold(at)
		}
		m.chunks(1)
		m.release(1)
		for _, to := range []int{0, 1, class, -1, 8} {
			if e := m.s.Move(1, to); e != api.ErrState {
				t.Errorf("Move of a page of class %d to %d: error %d", class, to, e)
			}
		}
		m.counts(class)
		m.same("calls that are refused")
	}
}

// Promise 7.3: a page is given back when all its chunks are free; others of its class, and their order, stay.
func TestRelease(t *testing.T) {
	m := full(t, []int{300, 1024}, 0, 0, 0, 1)
	for _, at := range []int{1024, 0, 2048, 1324, 300, 2648, 1624, 600, 2348} {
		m.free(at)
	}
	m.list(0, 2348, 600, 1624, 2648, 300, 1324, 2048, 0, 1024)
	m.release(1)
	m.list(0, 2348, 600, 2648, 300, 2048, 0)
	m.release(1)
	m.release(2)
	m.list(0, 600, 300, 0)
	m.free(3072)
	m.release(3)
	m.list(1)
	m.release(0)
	m.list(0)
	for _, class := range []int{1, 0, 0, 0, 0} {
		m.alloc(class)
	}
	m.same("Allocs behind Releases")
	if m.a.Free() != 1 {
		t.Errorf("%d pages are free", m.a.Free())
	}
	m.drain()
}

// Promise 7.3: the chunks of the page that is given back may stand anywhere in the list.
func TestReleaseInEachOrder(t *testing.T) {
	for _, order := range orders([]int{0, 500, 1024, 1524, 2048, 2548}) {
		for page := range 3 {
			m := full(t, []int{500}, 0, 0, 0)
			for _, at := range order {
				m.free(at)
			}
			m.release(page)
			m.same("Release")
			m.drain()
		}
	}
}

// orders are all orders of a list.
func orders(list []int) [][]int {
	if len(list) == 0 {
		return [][]int{nil}
	}
	var all [][]int
	for i, first := range list {
		rest := append(slices.Clone(list[:i]), list[i+1:]...)
		for _, order := range orders(rest) {
			all = append(all, append([]int{first}, order...))
		}
	}
	return all
}

// Promise 7.3: a page some of whose chunks are used is not given back, whichever they are.
func TestReleaseOfAPageThatIsUsed(t *testing.T) {
	for _, table := range tables {
		m := full(t, table, 0, 0)
		m.release(0)
		for _, at := range m.w.chunks(1) {
			m.free(at)
		}
		chunks := m.w.chunks(0)
		for _, kept := range []int{0, len(chunks) / 2, len(chunks) - 1} {
			for i, at := range chunks {
				if i != kept {
					m.release(0)
					m.free(at)
				}
			}
			if e := m.s.Release(0); e != api.ErrBusy {
				t.Fatalf("Release where the chunk at %d is used: error %d", chunks[kept], e)
			}
			for i, at := range chunks {
				if i != kept {
					m.hold(at)
				}
			}
		}
		m.same("Releases that are refused")
		m.release(1)
		for _, at := range chunks {
			m.free(at)
		}
		m.release(0)
		m.same("Releases")
	}
}

// Promise 7.3: a chunk that is held is used, and in no list; the others stay in their order.
func TestHold(t *testing.T) {
	m := made(t, 3, 300, 1024)
	m.alloc(0)
	m.list(0, 300, 600)
	m.hold(600)
	m.hold(600)
	m.list(0, 300)
	m.hold(300)
	m.hold(0)
	m.list(0)
	m.alloc(0)
	m.list(0, 1324, 1624)
	for _, at := range []int{300, 0, 600, 1024} {
		m.free(at)
	}
	m.list(0, 1024, 600, 0, 300, 1324, 1624)
	m.hold(1024)
	m.list(0, 600, 0, 300, 1324, 1624)
	m.hold(1624)
	m.list(0, 600, 0, 300, 1324)
	m.hold(300)
	m.list(0, 600, 0, 1324)
	m.free(1024)
	m.list(0, 1024, 600, 0, 1324)
	m.free(300)
	m.drain()
}

// Promise 7.3: each chunk of lists in each order is held.
func TestHoldInEachOrder(t *testing.T) {
	for _, order := range orders([]int{0, 400, 1024, 1424}) {
		for _, at := range order {
			m := full(t, []int{400}, 0, 0)
			for _, free := range order {
				m.free(free)
			}
			m.hold(at)
			m.same("Hold")
			m.drain()
		}
	}
}

// Promise 7.3: what Hold refuses: where no chunk begins, and chunks that are used.
func TestHoldRefuses(t *testing.T) {
	for _, table := range tables {
		m := made(t, 3, table...)
		m.alloc(0)
		m.hold(0)
		last := size / table[0] * table[0]
		for _, at := range append([]int{1, table[0] - 1, table[0] + 1, last + 1, 1023, 1024, 2048, 3071, 3072}, farAways...) {
			m.hold(at)
		}
		if last < size {
			if e := m.s.Hold(last); e != api.ErrRange {
				t.Errorf("Hold(%d) of %v: error %d", last, table, e)
			}
		}
		m.same("calls that are refused")
		for _, at := range m.w.chunks(0) {
			m.hold(at)
			if e := m.s.Hold(at); e != api.ErrTwice {
				t.Errorf("Hold(%d) once more: error %d", at, e)
			}
		}
		m.same("Holds")
	}
}

// Promise 7.3: a page all of whose chunks are used goes to another class; its chunks are free, rising, ahead of those of the list.
func TestMove(t *testing.T) {
	m := full(t, []int{300, 400, 1024}, 0, 0, 1, 2)
	m.free(2448)
	m.free(2048)
	m.move(1, 1)
	m.list(1, 1024, 1424, 2048, 2448)
	m.list(0)
	m.move(0, 1)
	m.list(1, 0, 400, 1024, 1424, 2048, 2448)
	m.move(3, 0)
	m.list(0, 3072, 3372, 3672)
	m.list(2)
	m.alloc(1)
	m.alloc(1)
	m.move(0, 2)
	m.list(2, 0)
	m.alloc(2)
	m.list(1, 1024, 1424, 2048, 2448)
	m.drain()
	if m.a.Free() != 0 {
		t.Errorf("%d pages are free", m.a.Free())
	}
}

// Promise 7.3: each page of each class to each class, also to its own.
func TestMoveToEachClass(t *testing.T) {
	for _, table := range tables {
		for class := range table {
			for to := range table {
				m := full(t, table, class, to, class, to)
				m.free(m.w.chunks(3)[0])
				m.free(m.w.chunks(1)[len(m.w.chunks(1))-1])
				m.move(2, to)
				m.same("Move")
				m.move(0, to)
				m.same("Move")
				m.drain()
			}
		}
	}
}

// Promise 7.3: a page that goes to the class that it is of: its chunks are free again, ahead of the list.
func TestMoveToItsOwnClass(t *testing.T) {
	m := full(t, []int{300, 1024}, 0, 0, 1)
	m.free(600)
	m.free(0)
	m.move(1, 0)
	m.list(0, 1024, 1324, 1624, 0, 600)
	m.move(2, 1)
	m.list(1, 2048)
	m.move(2, 1)
	m.list(1, 2048)
	m.drain()
}

// Promise 7.3: a page one of whose chunks is free does not move, whichever it is.
func TestMoveOfAPageWithAFreeChunk(t *testing.T) {
	for _, table := range tables {
		m := full(t, table, 0, 0)
		for page := range 2 {
			for _, at := range m.w.chunks(page) {
				m.free(at)
				for class := range table {
					if e := m.s.Move(page, class); e != api.ErrBusy {
						t.Fatalf("Move(%d, %d) where the chunk at %d is free: error %d", page, class, at, e)
					}
				}
				m.hold(at)
			}
		}
		for _, at := range m.w.chunks(0) {
			m.free(at)
			m.move(0, 0)
		}
		m.move(1, len(table)-1)
		m.same("Moves")
		m.drain()
	}
}

// Promise 7.3: a page does not move while a free page has a lesser number; one with a greater number is in nobody's way.
func TestMoveWhileAPageIsFree(t *testing.T) {
	const pages = 6
	for free := range pages {
		for page := range pages {
			for _, class := range []int{0, 1, 2} {
				m := full(t, []int{300, 400, 1024}, 0, 1, 2, 0, 1, 2)
				for _, at := range m.w.chunks(free) {
					m.free(at)
				}
				m.release(free)
				want := api.OK
				if free < page {
					want = api.ErrState
				}
				if free == page {
					want = api.ErrState // it is no page that could go
				}
				before := m.memory()
				if e := m.s.Move(page, class); e != want {
					t.Fatalf("Move(%d, %d) while page %d is free: error %d, not %d", page, class, free, e, want)
				}
				if want != api.OK {
					m.refused(before, want, "Move(%d, %d)", page, class)
				} else {
					for _, at := range m.w.chunks(page) {
						delete(m.w.used, at)
					}
					m.w.grant(page, class)
				}
				m.same("Move while a page is free")
				m.drain()
			}
		}
	}
}

// Promise 7.3: classes that there are not: no page moves to them.
func TestMoveToNoClass(t *testing.T) {
	for _, table := range tables {
		m := full(t, table, 0, len(table)-1)
		for _, class := range append([]int{len(table), len(table) + 1, -len(table)}, wrongClasses...) {
			m.move(0, class)
			m.move(1, class)
		}
		m.same("Moves that are refused")
	}
}

// Promises 7.1 to 7.3: of two things that are wrong the one is told that the document names first.
func TestWrongTwice(t *testing.T) {
	m := full(t, []int{300, 1024}, 0, 1, 0, 0)
	m.free(1024)
	m.release(1)
	m.free(2048)
	// Pages: 0 is used, 1 is free, of 2 a chunk is free, 3 is used.
	for _, c := range []struct {
		page, class int
		e           api.Errno
	}{
		{4, 2, api.ErrRange}, {-1, -1, api.ErrRange}, // no page, no class
		{1, 2, api.ErrState}, {1, -1, api.ErrState}, // a free page, no class
		{1, 0, api.ErrState},
		{2, 2, api.ErrRange}, {2, -1, api.ErrRange}, // no class; a free chunk; a free page ahead
		{2, 0, api.ErrBusy}, {2, 1, api.ErrBusy}, // a free chunk; a free page ahead
		{3, 2, api.ErrRange}, {3, -1, api.ErrRange}, // no class; a free page ahead
		{3, 0, api.ErrState}, {3, 1, api.ErrState},
		{0, 2, api.ErrRange},
	} {
		if e := m.s.Move(c.page, c.class); e != c.e {
			t.Errorf("Move(%d, %d): error %d, not %d", c.page, c.class, e, c.e)
		}
		m.move(c.page, c.class)
	}
	// No chunk begins there, and those around it are free, or used.
	for _, at := range []int{2049, 2347, 2349, 1, 299, 301, 900, 1024, 2948, 4096, -300, -1024} {
		if e := m.s.Free(at); e != api.ErrRange {
			t.Errorf("Free(%d): error %d", at, e)
		}
		if e := m.s.Hold(at); e != api.ErrRange {
			t.Errorf("Hold(%d): error %d", at, e)
		}
	}
	// What is wrong with a class is told ahead of there being no page.
	m.alloc(1)
	m.drain()
	for _, class := range []int{2, -1} {
		if at, e := m.s.Alloc(class); at != 0 || e != api.ErrRange {
			t.Errorf("Alloc(%d): %d, error %d", class, at, e)
		}
	}
	for class := range 2 {
		if at, e := m.s.Alloc(class); at != 0 || e != api.ErrFull {
			t.Errorf("Alloc(%d): %d, error %d", class, at, e)
		}
	}
	m.same("calls that are refused")
}

// Promise 7.1: the table that is handed in is not kept, and neither it nor what lies behind its end is changed.
func TestTableThatIsHandedIn(t *testing.T) {
	room := []int{64, 96, 1024, 7, 8, 9, 10, 11, 12}
	given := slices.Clone(room)
	a, _ := arena.New(3)
	s, e := New(a, given[:3])
	if e != api.OK {
		t.Fatalf("New: error %d", e)
	}
	calls := func() {
		for _, at := range []int{0, 64} {
			if got, e := s.Alloc(0); got != at || e != api.OK {
				t.Errorf("Alloc(0): %d, error %d, not %d", got, e, at)
			}
		}
		if e := s.Free(64); e != api.OK {
			t.Errorf("Free(64): error %d", e)
		}
		if e := s.Free(0); e != api.OK {
			t.Errorf("Free(0): error %d", e)
		}
		if e := s.Release(0); e != api.OK {
			t.Errorf("Release(0): error %d", e)
		}
	}
	calls()
	if !slices.Equal(given, room) {
		t.Errorf("the table, or what is behind its end, is changed: %v", given)
	}
	for i := range given {
		given[i] = 1000 - i
	}
	calls()
	if at, e := s.Alloc(3); at != 0 || e != api.ErrRange {
		t.Errorf("Alloc(3): %d, error %d", at, e)
	}
}

// Promise 7.2: the places that are handed out are new memory.
func TestPlacesThatAreHandedOut(t *testing.T) {
	m := full(t, []int{64, 500}, 0, 1)
	for page := range 2 {
		first, e1 := m.s.Chunks(page)
		second, e2 := m.s.Chunks(page)
		if e1 != api.OK || e2 != api.OK {
			t.Fatalf("Chunks(%d): errors %d and %d", page, e1, e2)
		}
		clear(first[:cap(first)])
		if !slices.Equal(second, m.w.chunks(page)) {
			t.Errorf("two answers of Chunks(%d) share memory", page)
		}
		_ = append(second, -5, -6)
		m.same("a change of what was handed out")
		kept := slices.Clone(second)
		m.move(page, 1-page)
		if !slices.Equal(second, kept) {
			t.Errorf("an answer of Chunks(%d) changes when the page moves", page)
		}
	}
	m.drain()
}

// Promise 7.1: slabs of two arenas have nothing in common.
func TestTwoSlabs(t *testing.T) {
	first, second := full(t, []int{64, 1024}, 0, 1), made(t, 2, 64, 1024)
	second.same("another one's Allocs")
	second.alloc(1)
	second.alloc(0)
	first.free(64)
	first.same("another one's Allocs")
	second.free(1024)
	second.same("another one's Free")
	first.drain()
	second.drain()
}

// Rule R1: all calls end, and none panics, though somebody wrote a ring, a place in no page, or what is no place into chunks that are free,
// and though somebody else gave pages back.
func TestCallsEnd(t *testing.T) {
	for _, place := range []int{-1, 0, 64, 128, 1024, 1088, 5, 1021, 1023, 2047, 2048, 1 << 20, math.MaxInt32} {
		for _, at := range []int{64, 128, 960, 1088} {
			m := made(t, 2, 64, 1024)
			m.alloc(0)
			m.drain()
			m.alloc(0)
			m.free(64)
			m.free(128)
			m.free(960)
			if e := m.a.SetPlace(at, place); e != api.OK {
				t.Fatalf("SetPlace: error %d", e)
			}
			m.allCalls()
		}
	}
	m := made(t, 2, 64, 1024)
	m.alloc(0)
	m.a.Write(64, bytes.Repeat([]byte{200}, 64))
	m.allCalls()
	for page := range 2 {
		m := made(t, 2, 64, 1024)
		m.alloc(0)
		m.drain()
		m.alloc(0)
		m.free(64)
		m.a.Return(page)
		m.allCalls()
		m.a.Grant(0)
		m.allCalls()
		m.a.Return(0)
		m.a.Grant(7)
		m.allCalls()
	}
}

// allCalls does all calls, whatever they answer.
func (m *both) allCalls() {
	for range 3 {
		for _, at := range []int{0, 64, 128, 960, 1024, 1088, 5, -1, 4096} {
			m.s.Class(at)
			m.s.IsFree(at)
			m.s.Hold(at)
			m.s.Free(at)
		}
		for class := -1; class <= 2; class++ {
			m.s.Counts(class)
			m.s.Alloc(class)
			for page := -1; page <= 2; page++ {
				m.s.Chunks(page)
				m.s.Move(page, class)
				m.s.Release(page)
			}
		}
		for range 40 {
			m.s.Alloc(0)
		}
	}
}

// Promise 7.4: calls in many orders, right ones and wrong ones: what is free and what is used is all, and a chunk's bytes are its user's alone.
func TestManyCalls(t *testing.T) {
	some := [][]int{{64, 96, 144, 216, 328, 496, 1024}, {200, 1024}, {300}, {500, 512, 513}, {64, 1024}, {40, 90, 250, 341, 342, 511, 1023, 1024}, {128}}
	for seed := range 56 {
		table := some[seed%len(some)]
		pages := []int{1, 2, 3, 5, 8}[seed%5]
		m := made(t, pages, table...)
		dice := noise(uint64(seed)+1, 4*300)
		for len(dice) > 0 {
			m.someCall(dice[:4])
			m.same("some call")
			dice = dice[4:]
		}
		m.drain()
	}
}

// someCall does the call that four bytes without order tell: it often fills a page, or empties one, so that pages come and go.
func (m *both) someCall(dice []byte) {
	m.t.Helper()
	pages := len(m.w.owner)
	page := int(dice[1]) % pages
	class := int(dice[2]) % len(m.w.table)
	chunks := m.w.chunks(page)
	at := page*size + int(dice[3])*4
	if len(chunks) > 0 && dice[3] > 10 {
		at = chunks[int(dice[3])%len(chunks)]
	}
	switch dice[0] % 12 {
	case 0, 1:
		m.alloc(class)
	case 2:
		m.alloc(int(dice[2])%(len(m.w.table)+2) - 1)
	case 3, 4:
		m.free(at)
	case 5, 6:
		m.hold(at)
	case 7:
		for _, at := range shuffled(chunks, dice[3]) {
			m.free(at)
		}
	case 8:
		for _, at := range shuffled(chunks, dice[3]) {
			m.hold(at)
		}
	case 9:
		m.release(int(dice[1])%(pages+2) - 1)
	case 10:
		m.move(page, class)
	case 11:
		m.move(int(dice[1])%(pages+2)-1, int(dice[2])%(len(m.w.table)+2)-1)
	}
}

// shuffled is a list from one of its places on, each so many further, so that it has another order, or the same one the other way round.
func shuffled(list []int, by byte) []int {
	var all []int
	for i := range list {
		all = append(all, list[(i+int(by))%len(list)])
	}
	if by%2 == 1 {
		slices.Reverse(all)
	}
	return all
}

// Promise 7.4: in an arena of all pages, with chunks of the least size: each is taken once, and no two have a byte in common.
func TestAllPages(t *testing.T) {
	a, _ := arena.New(32)
	s, e := New(a, []int{4, 1024})
	if e != api.OK {
		t.Fatalf("New: error %d", e)
	}
	seen := map[int]bool{}
	for range 31 * 256 {
		at, e := s.Alloc(0)
		if e != api.OK || seen[at] || at%4 != 0 {
			t.Fatalf("Alloc(0): %d, error %d, taken already: %t", at, e, seen[at])
		}
		seen[at] = true
		if e := a.SetNumber(at, 4, uint64(at)*5+1); e != api.OK {
			t.Fatalf("SetNumber(%d): error %d", at, e)
		}
	}
	if at, e := s.Alloc(1); at != 31*size || e != api.OK {
		t.Errorf("Alloc(1): %d, error %d", at, e)
	}
	for class, want := range [][3]int{{0, 31 * 256, 31}, {0, 1, 1}} {
		if free, used, pages := s.Counts(class); [3]int{free, used, pages} != want {
			t.Errorf("Counts(%d): %d, %d, %d, not %v", class, free, used, pages, want)
		}
	}
	for at := range seen {
		if v, e := a.Number(at, 4); v != uint64(at)*5+1 || e != api.OK {
			t.Fatalf("the bytes at %d: %d, error %d", at, v, e)
		}
	}
	for page := range 32 {
		if e := s.Move(page, 1); e != api.OK {
			t.Fatalf("Move(%d, 1): error %d", page, e)
		}
	}
	for page := 31; page >= 0; page-- {
		if at, e := s.Alloc(1); at != page*size || e != api.OK {
			t.Fatalf("Alloc(1) behind Moves: %d, error %d, not %d", at, e, page*size)
		}
	}
}

// Promise 7.4: chunks that are used, and those that are free, are all chunks of a class's pages.
func TestUsedAndFreeAreAll(t *testing.T) {
	for _, table := range tables {
		m := made(t, 4, table...)
		for i := range 60 {
			class := i % len(table)
			m.alloc(class)
			if i%3 == 2 && len(m.w.chunks(i%4)) > 0 {
				m.free(m.w.chunks(i % 4)[0])
			}
			for class := range table {
				free, used, pages := m.s.Counts(class)
				if free+used != pages*(size/table[class]) || free < 0 || used < 0 {
					t.Fatalf("Counts(%d) of %v: %d, %d, %d", class, table, free, used, pages)
				}
			}
		}
		m.same("all of it")
	}
}
