package arena

import (
	"bytes"
	"encoding/binary"
	"fmt"
	"math"
	"math/big"
	"testing"

	"tallboy/api"
)

// size is how many bytes a page has.
const size = 1024

// far is a whole number beyond all that an arena has, whose lowest 32 bits are 0.
const far = 1 << 32

// wrongPages are numbers of pages of which there is none in any arena; some have a right one as their lowest bits.
var wrongPages = []int{-1, -2, -8, -31, -32, -33, -255, -256, -1024, 32, 33, 64, 255, 256, 1024, 1 << 16, math.MaxInt32, math.MinInt32, 1 << 31,
	far, far + 1, -far, -far + 1, 1 << 61, 1 << 62, math.MaxInt, math.MaxInt - 1, math.MinInt, math.MinInt + 1, math.MinInt + 2}

// wrongClasses are those that no page is granted to.
var wrongClasses = []int{-1, -2, -7, -8, -9, -256, 8, 9, 15, 16, 255, 256, 263, 1 << 16, math.MaxInt32, math.MinInt32, far, far + 7, -far, -far + 3,
	math.MaxInt, math.MaxInt - 1, math.MinInt, math.MinInt + 1, math.MinInt + 7}

// farAways are addresses in no arena: also those to which a count of bytes added leaves the type.
var farAways = []int{-1, -2, -4, -8, -9, -1020, -1023, -1024, -1025, -2047, -2048, -2049, -32768, -32769, math.MinInt32, math.MinInt32 - 1, -far, -far + 5,
	math.MinInt, math.MinInt + 1, math.MinInt + 8, math.MinInt + 1023, math.MinInt + 1024, math.MinInt + 1025,
	32 * size, 32*size + 1, 33*size - 1, 1 << 16, math.MaxInt32, 1 << 31, far, far + 1, far + 1024, 1 << 42, 1<<42 + 1024, 1 << 62,
	math.MaxInt, math.MaxInt - 1, math.MaxInt - 3, math.MaxInt - 4, math.MaxInt - 7, math.MaxInt - 8, math.MaxInt - 1022, math.MaxInt - 1023, math.MaxInt - 1024}

// wrongWidths are those that no number has; some have a right one as their lowest bits.
var wrongWidths = []int{0, -1, -2, -4, -8, -9, -1024, 3, 5, 6, 7, 9, 10, 12, 15, 16, 17, 24, 32, 64, 128, 255, 256, 257, 260, 1016, 1020, 1023, 1024, 1025,
	math.MaxInt32, math.MinInt32, far, far + 1, far + 2, far + 4, far + 8, -far + 4, math.MaxInt, math.MaxInt - 1, math.MinInt, math.MinInt + 1, math.MinInt + 4, math.MinInt + 8}

// wrongCounts are numbers of bytes that lie within no page.
var wrongCounts = []int{-1, -2, -8, -255, -256, -1023, -1024, -1025, math.MinInt32, -far, -far + 1, math.MinInt, math.MinInt + 1, math.MinInt + 1024,
	1025, 1026, 2048, 32768, 1 << 16, math.MaxInt32, far, far + 1, 1 << 62, math.MaxInt, math.MaxInt - 1, math.MaxInt - 1023, math.MaxInt - 1024}

// wrongPlaces are numbers that are no place.
var wrongPlaces = []int{-2, -3, -128, -256, -257, -65537, math.MinInt32, math.MinInt32 - 1, -far, -far - 1, 1 << 31, 1<<31 + 1, far - 2, far - 1, far, far + 1,
	math.MaxInt, math.MaxInt - 1, math.MinInt, math.MinInt + 1}

// want is an arena by the document's words: what each page's class is, and its bytes.
type want struct {
	owner []int
	bytes [][]byte
}

// both are an arena, and what it must be.
type both struct {
	t *testing.T
	a *Arena
	w *want
}

// made is a new arena, and what it must be.
func made(t *testing.T, pages int) *both {
	t.Helper()
	a, e := New(pages)
	if e != api.OK || a == nil {
		t.Fatalf("New(%d): error %d", pages, e)
	}
	w := &want{}
	for range pages {
		w.owner = append(w.owner, -1)
		w.bytes = append(w.bytes, make([]byte, size))
	}
	return &both{t, a, w}
}

// granted is a new arena with all pages granted, each byte of them as filling tells it.
func granted(t *testing.T, pages int) *both {
	t.Helper()
	m := made(t, pages)
	for p := range pages {
		m.grant(p % 8)
		m.write(p*size, filling(p))
	}
	return m
}

// filling is a page's bytes: those of no two pages, and no two neighbours, are the same.
func filling(page int) []byte {
	b := make([]byte, size)
	for i := range b {
		b[i] = byte(i*7 + i/256 + page*31 + 1)
	}
	return b
}

// noise is n bytes without order, others for each seed.
func noise(seed uint64, n int) []byte {
	v := 88172645463325252 + seed*0x9E3779B97F4A7C15
	b := make([]byte, n)
	for i := range b {
		v ^= v << 13
		v ^= v >> 7
		v ^= v << 17
		b[i] = byte(v >> 24)
	}
	return b
}

// free is how many pages are to be free.
func (w *want) free() int {
	n := 0
	for _, c := range w.owner {
		if c == -1 {
			n++
		}
	}
	return n
}

// least is the free page with the least number, and whether there is one.
func (w *want) least() (int, bool) {
	for p, c := range w.owner {
		if c == -1 {
			return p, true
		}
	}
	return 0, false
}

// lie is n bytes from an address on, if they lie within a granted page; it is asked by numbers that have no end.
func (w *want) lie(at, n int) ([]byte, bool) {
	for p, c := range w.owner {
		begin := p * size
		if c == -1 || at < begin || at >= begin+size || n < 0 {
			continue
		}
		end := new(big.Int).Add(big.NewInt(int64(at)), big.NewInt(int64(n)))
		if end.Cmp(big.NewInt(int64(begin+size))) <= 0 {
			return w.bytes[p][at-begin : at-begin+n], true
		}
	}
	return nil, false
}

// differ tells the first place at which two lists are not the same.
func differ(got, want []byte) string {
	for i := range min(len(got), len(want)) {
		if got[i] != want[i] {
			return fmt.Sprintf("at %d is %d, not %d", i, got[i], want[i])
		}
	}
	return fmt.Sprintf("%d bytes, not %d", len(got), len(want))
}

// same holds the whole arena against what it must be.
func (m *both) same(after string) {
	m.t.Helper()
	if n := m.a.Pages(); n != len(m.w.owner) {
		m.t.Fatalf("Pages behind %s: %d, not %d", after, n, len(m.w.owner))
	}
	if n := m.a.Free(); n != m.w.free() {
		m.t.Fatalf("Free behind %s: %d, not %d", after, n, m.w.free())
	}
	for p, c := range m.w.owner {
		if got, e := m.a.Owner(p); got != c || e != api.OK {
			m.t.Fatalf("Owner(%d) behind %s: %d, error %d, not %d", p, after, got, e, c)
		}
		b, e := m.a.Read(p*size, size)
		if c == -1 && (len(b) != 0 || e != api.ErrRange) {
			m.t.Fatalf("the bytes of page %d, that is free, behind %s: %d of them, error %d", p, after, len(b), e)
		}
		if c != -1 && (e != api.OK || !bytes.Equal(b, m.w.bytes[p])) {
			m.t.Fatalf("the bytes of page %d behind %s: error %d, %s", p, after, e, differ(b, m.w.bytes[p]))
		}
	}
}

// grant does a Grant, and holds its answer against what it must be.
func (m *both) grant(class int) {
	m.t.Helper()
	page, e := 0, api.OK
	least, there := m.w.least()
	if class < 0 || class > 7 {
		e = api.ErrRange
	} else if !there {
		e = api.ErrFull
	} else {
		page = least
		m.w.owner[page], m.w.bytes[page] = class, make([]byte, size)
	}
	if p, got := m.a.Grant(class); p != page || got != e {
		m.t.Fatalf("Grant(%d): %d, error %d, not %d, error %d", class, p, got, page, e)
	}
}

// give does a Return, and holds its answer against what it must be.
func (m *both) give(page int) {
	m.t.Helper()
	e := api.OK
	if page < 0 || page >= len(m.w.owner) {
		e = api.ErrRange
	} else if m.w.owner[page] == -1 {
		e = api.ErrState
	} else {
		m.w.owner[page] = -1
	}
	if got := m.a.Return(page); got != e {
		m.t.Fatalf("Return(%d): error %d, not %d", page, got, e)
	}
}

// read does a Read, and holds its answer against what it must be.
func (m *both) read(at, n int) {
	m.t.Helper()
	b, there := m.w.lie(at, n)
	e := api.OK
	if !there {
		e = api.ErrRange
	}
	if got, ge := m.a.Read(at, n); ge != e || !bytes.Equal(got, b) {
		m.t.Fatalf("Read(%d, %d): error %d, not %d, %s", at, n, ge, e, differ(got, b))
	}
}

// write does a Write, and looks whether it changed the list, or what lies in the spare room behind its end.
func (m *both) write(at int, b []byte) {
	m.t.Helper()
	room := make([]byte, len(b)+16)
	for i := range room {
		room[i] = 0xC3
	}
	copy(room, b)
	before := bytes.Clone(room)
	e := api.ErrRange
	if to, there := m.w.lie(at, len(b)); there {
		e = api.OK
		copy(to, b)
	}
	if got := m.a.Write(at, room[:len(b)]); got != e {
		m.t.Fatalf("Write(%d) of %d bytes: error %d, not %d", at, len(b), got, e)
	}
	if !bytes.Equal(room, before) {
		m.t.Fatalf("Write(%d) of %d bytes changed the list that was handed in", at, len(b))
	}
}

// isWidth tells whether a number may have so many bytes.
func isWidth(width int) bool { return width == 1 || width == 2 || width == 4 || width == 8 }

// number does a Number, and holds its answer against what it must be.
func (m *both) number(at, width int) {
	m.t.Helper()
	v, e := uint64(0), api.ErrRange
	if b, there := m.w.lie(at, width); there && isWidth(width) {
		e = api.OK
		v = binary.LittleEndian.Uint64(append(bytes.Clone(b), make([]byte, 8)...))
	}
	if got, ge := m.a.Number(at, width); got != v || ge != e {
		m.t.Fatalf("Number(%d, %d): %d, error %d, not %d, error %d", at, width, got, ge, v, e)
	}
}

// setNumber does a SetNumber, and holds its answer against what it must be.
func (m *both) setNumber(at, width int, v uint64) {
	m.t.Helper()
	e := api.ErrRange
	if b, there := m.w.lie(at, width); there && isWidth(width) {
		e = api.ErrField
		if new(big.Int).SetUint64(v).BitLen() <= 8*width {
			e = api.OK
			copy(b, binary.LittleEndian.AppendUint64(nil, v)[:width])
		}
	}
	if got := m.a.SetNumber(at, width, v); got != e {
		m.t.Fatalf("SetNumber(%d, %d, %d): error %d, not %d", at, width, v, got, e)
	}
}

// place does a Place, and holds its answer against what it must be.
func (m *both) place(at int) {
	m.t.Helper()
	place, e := 0, api.ErrRange
	if b, there := m.w.lie(at, 4); there {
		switch v := binary.LittleEndian.Uint32(b); {
		case v == math.MaxUint32:
			place, e = -1, api.OK
		case v <= math.MaxInt32:
			place, e = int(v), api.OK
		default:
			e = api.ErrField
		}
	}
	if got, ge := m.a.Place(at); got != place || ge != e {
		m.t.Fatalf("Place(%d): %d, error %d, not %d, error %d", at, got, ge, place, e)
	}
}

// setPlace does a SetPlace, and holds its answer against what it must be.
func (m *both) setPlace(at, place int) {
	m.t.Helper()
	e := api.ErrRange
	if b, there := m.w.lie(at, 4); there {
		e = api.ErrField
		if place >= -1 && place <= math.MaxInt32 {
			e = api.OK
			binary.LittleEndian.PutUint32(b, uint32(int64(place)))
		}
	}
	if got := m.a.SetPlace(at, place); got != e {
		m.t.Fatalf("SetPlace(%d, %d): error %d, not %d", at, place, got, e)
	}
}

// calls asks all that an address is handed to, in each count and width, and looks whether what it refuses changes anything.
func (m *both) calls(at int) {
	m.t.Helper()
	for _, n := range []int{0, 1, 2, 3, 4, 8, 9, 1023, 1024} {
		m.read(at, n)
		m.write(at, noise(uint64(n), n))
	}
	for _, width := range []int{1, 2, 4, 8} {
		m.number(at, width)
		m.setNumber(at, width, 0x91)
		m.setNumber(at, width, uint64(0xA1B2C3D4E5F60718)>>(64-8*width))
		m.setNumber(at, width, math.MaxUint64)
	}
	for _, place := range []int{-1, 0, 5, math.MaxInt32, -2, 1 << 31} {
		m.setPlace(at, place)
		m.place(at)
	}
	m.same("calls at an address")
}

// Promises 5.1 and 5.2: the chapter's example.
func TestExample(t *testing.T) {
	m := made(t, 2)
	for i, c := range []struct {
		class, page int
		e           api.Errno
	}{{3, 0, api.OK}, {3, 1, api.OK}, {0, 0, api.ErrFull}} {
		if p, e := m.a.Grant(c.class); p != c.page || e != c.e {
			t.Errorf("Grant %d: %d, error %d", i, p, e)
		}
	}
	if e := m.a.Write(0, filling(0)); e != api.OK {
		t.Errorf("Write: error %d", e)
	}
	if e := m.a.Return(0); e != api.OK {
		t.Errorf("Return: error %d", e)
	}
	if b, e := m.a.Read(0, 1); len(b) != 0 || e != api.ErrRange {
		t.Errorf("Read of a free page: %v, error %d", b, e)
	}
	if p, e := m.a.Grant(1); p != 0 || e != api.OK {
		t.Errorf("Grant of a page that was given back: %d, error %d", p, e)
	}
	if b, e := m.a.Read(0, size); e != api.OK || !bytes.Equal(b, make([]byte, size)) {
		t.Errorf("the bytes of a page that was granted anew: error %d, %s", e, differ(b, make([]byte, size)))
	}
}

// Promise 5.1: how many pages there may be.
func TestNew(t *testing.T) {
	for pages := -300; pages <= 300; pages++ {
		checkNew(t, pages)
	}
	for _, pages := range append([]int{1, 32, 31, 2}, wrongPages...) {
		checkNew(t, pages)
	}
}

// checkNew does a New: 1 to 32 pages there may be, and all are free at first.
func checkNew(t *testing.T, pages int) {
	t.Helper()
	if pages >= 1 && pages <= 32 {
		m := made(t, pages)
		m.same("New")
		for p := range pages {
			m.calls(p * size)
			m.give(p)
		}
		return
	}
	if a, e := New(pages); a != nil || e != api.ErrRange {
		t.Errorf("New(%d): an arena: %t, error %d", pages, a != nil, e)
	}
}

// Promise 5.1: each class that there is has pages granted to it, and no other one.
func TestClasses(t *testing.T) {
	for class := -20; class <= 20; class++ {
		m := made(t, 2)
		m.grant(class)
		m.same("Grant")
		m.grant(class)
		m.same("Grant")
	}
	m := made(t, 9)
	m.grant(5)
	for _, class := range wrongClasses {
		m.grant(class)
		m.same("a Grant that is refused")
	}
	for class := range 8 {
		m.grant(class)
		m.same("Grant")
	}
}

// Promise 5.1: a class that is none is told ahead of there being no free page.
func TestGrantOfNone(t *testing.T) {
	for _, pages := range []int{1, 2, 31, 32} {
		m := granted(t, pages)
		for class := range 8 {
			if p, e := m.a.Grant(class); p != 0 || e != api.ErrFull {
				t.Errorf("Grant(%d) of none of %d: %d, error %d", class, pages, p, e)
			}
		}
		for _, class := range wrongClasses {
			if p, e := m.a.Grant(class); p != 0 || e != api.ErrRange {
				t.Errorf("Grant(%d) of none of %d: %d, error %d", class, pages, p, e)
			}
		}
		m.same("Grants of none")
	}
}

// Promise 5.1: pages are granted from the least number on, whatever class they go to.
func TestGrantInOrder(t *testing.T) {
	for pages := 1; pages <= 32; pages++ {
		m := made(t, pages)
		for want := range pages {
			if p, e := m.a.Grant((want * 3) % 8); p != want || e != api.OK {
				t.Errorf("Grant %d of %d: %d, error %d", want, pages, p, e)
			}
			m.w.owner[want] = (want * 3) % 8
			m.same("Grant")
		}
		m.grant(0)
	}
}

// Promise 5.1: of pages that were given back, in whatever order, the one with the least number is granted first.
func TestLeastFreePage(t *testing.T) {
	for _, back := range [][]int{{5}, {0}, {31}, {30, 31}, {31, 30}, {3, 17, 9}, {9, 3, 17}, {17, 9, 3}, {0, 31}, {31, 0}, {1, 2, 3, 0}, {8, 7, 6, 16, 15}} {
		m := granted(t, 32)
		for i, p := range back {
			m.give(p)
			m.same("Return")
			if m.a.Free() != i+1 {
				t.Errorf("Free behind %d Returns: %d", i+1, m.a.Free())
			}
		}
		for range back {
			m.grant(6)
			m.same("Grant")
		}
		m.grant(6)
	}
	m := granted(t, 32)
	for p := 31; p >= 0; p-- {
		m.give(p)
	}
	m.same("Returns of all")
	m.grant(2)
	m.same("Grant")
}

// Promise 5.1: what Return refuses: pages that there are not, and those that are free.
func TestReturn(t *testing.T) {
	for _, pages := range []int{1, 2, 5, 31, 32} {
		for _, m := range []*both{granted(t, pages), made(t, pages)} {
			for _, page := range append([]int{pages, pages + 1, 2 * pages, -pages}, wrongPages...) {
				if e := m.a.Return(page); e != api.ErrRange {
					t.Errorf("Return(%d) of %d pages: error %d", page, pages, e)
				}
			}
			m.same("Returns of pages that there are not")
		}
		m := granted(t, pages)
		for _, want := range []api.Errno{api.OK, api.ErrState, api.ErrState} {
			if e := m.a.Return(pages - 1); e != want {
				t.Errorf("Return of the last page of %d: error %d, not %d", pages, e, want)
			}
			m.w.owner[pages-1] = -1
			m.same("Return")
		}
		m = made(t, pages)
		for page := range pages {
			if e := m.a.Return(page); e != api.ErrState {
				t.Errorf("Return(%d) of a page that never was granted: error %d", page, e)
			}
			m.same("Return of a free page")
		}
	}
}

// Promise 5.1: what Owner answers: of a page there is not an error and 0, of a free one -1, of others the class.
func TestOwner(t *testing.T) {
	m := made(t, 3)
	m.grant(0)
	m.grant(7)
	for _, c := range []struct{ page, class int }{{0, 0}, {1, 7}, {2, -1}} {
		if class, e := m.a.Owner(c.page); class != c.class || e != api.OK {
			t.Errorf("Owner(%d): %d, error %d, not %d", c.page, class, e, c.class)
		}
	}
	for _, page := range append([]int{3, 4, -3}, wrongPages...) {
		if class, e := m.a.Owner(page); class != 0 || e != api.ErrRange {
			t.Errorf("Owner(%d): %d, error %d", page, class, e)
		}
	}
	for page := range 2 {
		m.give(page)
		if class, e := m.a.Owner(page); class != -1 || e != api.OK {
			t.Errorf("Owner(%d) of a page that was given back: %d, error %d", page, class, e)
		}
	}
	m.grant(4)
	if class, e := m.a.Owner(0); class != 4 || e != api.OK {
		t.Errorf("Owner of a page that was granted to another class: %d, error %d", class, e)
	}
}

// Promise 5.1: the bytes of a page are 0 when it is granted anew, to the same class or to another one, and those of other pages stay.
func TestGrantedAnew(t *testing.T) {
	for _, class := range []int{0, 1, 3, 7} {
		for page := range 4 {
			m := granted(t, 4)
			if e := m.a.Write(page*size, bytes.Repeat([]byte{255}, size)); e != api.OK {
				t.Errorf("Write: error %d", e)
			}
			m.give(page)
			m.same("Return")
			m.grant(class)
			if b, e := m.a.Read(page*size, size); e != api.OK || !bytes.Equal(b, make([]byte, size)) {
				t.Errorf("page %d, granted anew to %d: error %d, %s", page, class, e, differ(b, make([]byte, size)))
			}
			m.same("Grant")
			m.setNumber(page*size+1016, 8, math.MaxUint64)
			m.setPlace(page*size, -1)
			m.give(page)
			m.grant(class)
			m.same("Grant")
		}
	}
}

// Promise 5.1: what was refused in a free page does not lie in it when it is granted.
func TestNothingLiesInFreePages(t *testing.T) {
	m := granted(t, 3)
	m.give(1)
	for _, at := range []int{size, size + 1, size + 511, 2*size - 8, 2*size - 4, 2*size - 1} {
		m.calls(at)
	}
	m.write(size-2, []byte{1, 2, 3, 4})
	m.setNumber(size-1, 8, math.MaxUint64)
	m.setPlace(size-2, -1)
	m.grant(2)
	m.same("Grant")
}

// edges are addresses around each page's ends, and in its midst.
func edges(pages int) []int {
	var list []int
	for p := 0; p <= pages; p++ {
		for d := -10; d <= 10; d++ {
			list = append(list, p*size+d)
		}
		list = append(list, p*size+255, p*size+256, p*size+512, p*size+700)
	}
	return list
}

// Promise 5.2: all calls around the ends of pages, where all pages are granted, every other one, or none.
func TestEndsOfPages(t *testing.T) {
	for _, pages := range []int{1, 2, 4} {
		full, half := granted(t, pages), granted(t, pages)
		for p := 0; p < pages; p += 2 {
			half.give(p)
		}
		for _, m := range []*both{full, half, made(t, pages)} {
			for _, at := range edges(pages) {
				m.calls(at)
			}
		}
	}
}

// Promise 5.2: in an arena with all pages that there may be.
func TestAllPages(t *testing.T) {
	m := granted(t, 32)
	m.same("Grants")
	for p := range 32 {
		m.read(p*size, size)
		m.number(p*size+1016, 8)
		m.setNumber(p*size+1016, 8, uint64(p)<<56)
		m.setPlace(p*size, p*size)
		m.place(p * size)
		m.number(p*size+1017, 8)
	}
	m.same("SetNumber in each page")
	m.give(31)
	for p := range 32 {
		m.read(p*size+1, 1023)
		m.read(p*size+1, 1024)
		m.place(p*size + 1021)
	}
	m.same("a Return")
}

// Promise 5.2: bytes that end at a page's end are there, those with one more are not, though the next page is granted.
func TestOverAPagesEnd(t *testing.T) {
	m := granted(t, 3)
	for _, n := range []int{1, 2, 4, 8, 100, 1024} {
		for page := range 3 {
			at := (page+1)*size - n
			if b, e := m.a.Read(at, n); e != api.OK || !bytes.Equal(b, m.w.bytes[page][size-n:]) {
				t.Errorf("Read(%d, %d): error %d, %s", at, n, e, differ(b, m.w.bytes[page][size-n:]))
			}
			if b, e := m.a.Read(at, n+1); e != api.ErrRange || len(b) != 0 {
				t.Errorf("Read(%d, %d): %d bytes, error %d", at, n+1, len(b), e)
			}
			if e := m.a.Write(at, make([]byte, n+1)); e != api.ErrRange {
				t.Errorf("Write(%d) of %d bytes: error %d", at, n+1, e)
			}
			m.number(at, n)
			m.write(at, noise(uint64(n), n))
		}
	}
	for _, width := range []int{2, 4, 8} {
		for at := 2*size - width + 1; at < 2*size; at++ {
			if v, e := m.a.Number(at, width); v != 0 || e != api.ErrRange {
				t.Errorf("Number(%d, %d): %d, error %d", at, width, v, e)
			}
			if e := m.a.SetNumber(at, width, 0); e != api.ErrRange {
				t.Errorf("SetNumber(%d, %d, 0): error %d", at, width, e)
			}
		}
	}
	for at := 2*size - 3; at < 2*size; at++ {
		if place, e := m.a.Place(at); place != 0 || e != api.ErrRange {
			t.Errorf("Place(%d): %d, error %d", at, place, e)
		}
		if e := m.a.SetPlace(at, 0); e != api.ErrRange {
			t.Errorf("SetPlace(%d, 0): error %d", at, e)
		}
	}
	m.same("calls that are refused")
	m.write(0, make([]byte, size))
	m.write(2*size, bytes.Repeat([]byte{255}, size))
	m.same("Writes of whole pages")
}

// Promise 5.2: 0 bytes lie where a granted page is, and nowhere else.
func TestNoBytes(t *testing.T) {
	m := granted(t, 3)
	m.give(1)
	for _, c := range []struct {
		at int
		e  api.Errno
	}{
		{0, api.OK}, {1, api.OK}, {1023, api.OK}, {1024, api.ErrRange}, {1500, api.ErrRange}, {2047, api.ErrRange},
		{2048, api.OK}, {3071, api.OK}, {3072, api.ErrRange}, {3073, api.ErrRange}, {-1, api.ErrRange}, {-1024, api.ErrRange},
		{math.MaxInt, api.ErrRange}, {math.MinInt, api.ErrRange},
	} {
		if b, e := m.a.Read(c.at, 0); len(b) != 0 || e != c.e {
			t.Errorf("Read(%d, 0): %v, error %d, not %d", c.at, b, e, c.e)
		}
		for _, b := range [][]byte{nil, {}, make([]byte, 0, 8)} {
			if e := m.a.Write(c.at, b); e != c.e {
				t.Errorf("Write(%d) of nothing: error %d, not %d", c.at, e, c.e)
			}
		}
		if v, e := m.a.Number(c.at, 0); v != 0 || e != api.ErrRange {
			t.Errorf("Number(%d, 0): %d, error %d", c.at, v, e)
		}
		if e := m.a.SetNumber(c.at, 0, 0); e != api.ErrRange {
			t.Errorf("SetNumber(%d, 0, 0): error %d", c.at, e)
		}
	}
	m.same("calls of no bytes")
}

// Promise 5.2: addresses below nought, and beyond the last page, at the ends of their type, too.
func TestAddressesFarAway(t *testing.T) {
	for _, pages := range []int{1, 2, 32} {
		m := granted(t, pages)
		for _, at := range append([]int{pages * size, pages*size + 1, -pages * size, (pages + 1) * size}, farAways...) {
			m.calls(at)
			for _, n := range append(wrongCounts, -at, size-at) {
				if b, e := m.a.Read(at, n); len(b) != 0 || e != api.ErrRange {
					t.Errorf("Read(%d, %d): %d bytes, error %d", at, n, len(b), e)
				}
			}
		}
	}
}

// Promise 5.2: counts of bytes below nought, and those that are too many, at the ends of their type, too.
func TestCountsThatAreNone(t *testing.T) {
	m := granted(t, 3)
	for _, at := range []int{0, 1, 5, 1023, 1024, 1025, 2047, 2048, 3071} {
		for _, n := range append([]int{-at, -at - 1, math.MaxInt - at, math.MaxInt - at + 1, math.MinInt + at}, wrongCounts...) {
			if n == 0 {
				continue
			}
			if b, e := m.a.Read(at, n); len(b) != 0 || e != api.ErrRange {
				t.Errorf("Read(%d, %d): %d bytes, error %d", at, n, len(b), e)
			}
		}
		for _, n := range []int{1025, 2048, 3072, 4096, 1 << 20} {
			if e := m.a.Write(at, make([]byte, n)); e != api.ErrRange {
				t.Errorf("Write(%d) of %d bytes: error %d", at, n, e)
			}
		}
	}
	m.same("calls that are refused")
}

// Promise 5.2: each count of bytes from each address of a page on.
func TestAllCounts(t *testing.T) {
	m := granted(t, 2)
	for at := 0; at <= 2*size; at += 31 {
		for n := -3; n <= size+3; n++ {
			m.read(at, n)
		}
	}
	for n := range size + 3 {
		m.write(size, noise(uint64(n), n))
		m.write(size-n, noise(uint64(n), n))
		m.write(size-n+1, noise(uint64(n), n))
	}
	m.same("Writes")
}

// Promise 5.2: widths that no number has are refused, wherever it is, and whatever it is.
func TestWidthsThatAreNone(t *testing.T) {
	m := granted(t, 3)
	m.give(1)
	for _, at := range append([]int{0, 1, 8, 512, 1016, 1023, 1024, 2048, 3071, 3072}, farAways...) {
		for _, width := range wrongWidths {
			if v, e := m.a.Number(at, width); v != 0 || e != api.ErrRange {
				t.Errorf("Number(%d, %d): %d, error %d", at, width, v, e)
			}
			for _, v := range []uint64{0, 1, 256, math.MaxUint64} {
				if e := m.a.SetNumber(at, width, v); e != api.ErrRange {
					t.Errorf("SetNumber(%d, %d, %d): error %d", at, width, v, e)
				}
			}
		}
	}
	m.same("calls with wrong widths")
	for width := -20; width <= size+20; width++ {
		m.number(2, width)
		m.setNumber(2, width, 7)
	}
	m.same("calls with all widths")
}

// Promise 5.2: a number's bytes are the lowest first, and no more than its width.
func TestNumbers(t *testing.T) {
	m := granted(t, 2)
	for _, c := range []struct {
		at, width int
		v         uint64
		bytes     []byte
	}{
		{0, 1, 255, []byte{255}}, {1, 2, 258, []byte{2, 1}}, {1020, 4, 0x01020304, []byte{4, 3, 2, 1}},
		{1024, 8, 0x0102030405060708, []byte{8, 7, 6, 5, 4, 3, 2, 1}}, {2040, 8, 1<<64 - 2, []byte{254, 255, 255, 255, 255, 255, 255, 255}},
		{1023, 1, 0, []byte{0}}, {2046, 2, 65535, []byte{255, 255}}, {77, 4, 1<<32 - 1, []byte{255, 255, 255, 255}}, {300, 8, 1, []byte{1, 0, 0, 0, 0, 0, 0, 0}},
	} {
		m.setNumber(c.at, c.width, c.v)
		if b, e := m.a.Read(c.at, c.width); e != api.OK || !bytes.Equal(b, c.bytes) {
			t.Errorf("SetNumber(%d, %d, %d): % x, error %d, not % x", c.at, c.width, c.v, b, e, c.bytes)
		}
		if v, e := m.a.Number(c.at, c.width); v != c.v || e != api.OK {
			t.Errorf("Number(%d, %d): %d, error %d, not %d", c.at, c.width, v, e, c.v)
		}
		m.same("SetNumber")
	}
}

// Promise 5.2: a number that does not fit is refused, and lays nothing.
func TestNumbersThatDoNotFit(t *testing.T) {
	m := granted(t, 1)
	for _, width := range []int{1, 2, 4, 8} {
		for n := range 64 {
			p := uint64(1) << n
			for _, v := range []uint64{p - 1, p, p + 1, -p} {
				m.setNumber(512, width, v)
				m.setNumber(1024-width, width, v)
				m.number(512, width)
			}
		}
		m.same("SetNumber")
	}
	for _, c := range []struct {
		width int
		v     uint64
	}{{1, 256}, {2, 65536}, {4, 1 << 32}, {1, math.MaxUint64}, {2, math.MaxUint64}, {4, math.MaxUint64}} {
		if e := m.a.SetNumber(0, c.width, c.v); e != api.ErrField {
			t.Errorf("SetNumber(0, %d, %d): error %d", c.width, c.v, e)
		}
	}
	m.same("SetNumber of numbers that do not fit")
}

// Promise 5.2: a place lies in four bytes; none is such, too.
func TestPlaces(t *testing.T) {
	m := granted(t, 2)
	for _, c := range []struct {
		at, place int
		bytes     []byte
	}{
		{0, -1, []byte{255, 255, 255, 255}}, {0, 0, []byte{0, 0, 0, 0}}, {1020, 0x01020304, []byte{4, 3, 2, 1}},
		{1024, 1<<31 - 1, []byte{255, 255, 255, 127}}, {2044, 1<<31 - 2, []byte{254, 255, 255, 127}}, {500, 32767, []byte{255, 127, 0, 0}},
	} {
		m.setPlace(c.at, c.place)
		if b, e := m.a.Read(c.at, 4); e != api.OK || !bytes.Equal(b, c.bytes) {
			t.Errorf("SetPlace(%d, %d): % x, error %d, not % x", c.at, c.place, b, e, c.bytes)
		}
		if place, e := m.a.Place(c.at); place != c.place || e != api.OK {
			t.Errorf("Place(%d): %d, error %d, not %d", c.at, place, e, c.place)
		}
		m.same("SetPlace")
	}
}

// Promise 5.2: numbers that are no place, and bytes that are none, are refused.
func TestPlacesThatAreNone(t *testing.T) {
	m := granted(t, 2)
	for _, place := range wrongPlaces {
		for _, at := range []int{0, 3, 1020, 1024, 2044} {
			if e := m.a.SetPlace(at, place); e != api.ErrField {
				t.Errorf("SetPlace(%d, %d): error %d", at, place, e)
			}
		}
	}
	m.same("SetPlace of no places")
	for _, b := range [][]byte{{254, 255, 255, 255}, {0, 0, 0, 128}, {255, 255, 255, 128}, {0, 0, 0, 255}, {255, 254, 255, 255}, {255, 255, 255, 254}, {0, 0, 128, 128}} {
		m.write(1020, b)
		if place, e := m.a.Place(1020); place != 0 || e != api.ErrField {
			t.Errorf("Place of % x: %d, error %d", b, place, e)
		}
	}
	m.same("Place of what is none")
}

// Promise 5.2: bytes that do not lie within a granted page are told ahead of a number, or a place, that is none.
func TestWrongTwice(t *testing.T) {
	m := granted(t, 3)
	m.give(1)
	for _, at := range append([]int{1021, 1023, 1024, 1500, 2044, 2047, 3069, 3071, 3072, 3073}, farAways...) {
		for _, place := range wrongPlaces {
			if e := m.a.SetPlace(at, place); e != api.ErrRange {
				t.Errorf("SetPlace(%d, %d): error %d", at, place, e)
			}
		}
		if e := m.a.SetNumber(at, 4, 1<<32); e != api.ErrRange {
			t.Errorf("SetNumber(%d, 4, 2^32): error %d", at, e)
		}
		for _, n := range wrongCounts {
			if b, e := m.a.Read(at, n); len(b) != 0 || e != api.ErrRange {
				t.Errorf("Read(%d, %d): %d bytes, error %d", at, n, len(b), e)
			}
		}
	}
	for _, at := range append([]int{1024, 2047, 3072}, farAways...) {
		if e := m.a.SetNumber(at, 1, 256); e != api.ErrRange {
			t.Errorf("SetNumber(%d, 1, 256): error %d", at, e)
		}
	}
	for _, at := range append([]int{1023, 1024, 2046, 3071, 3072}, farAways...) {
		if e := m.a.SetNumber(at, 2, 65536); e != api.ErrRange {
			t.Errorf("SetNumber(%d, 2, 65536): error %d", at, e)
		}
	}
	m.same("calls that are wrong twice")
	// What is there of the bytes, and what lies behind the page's end, would be no place.
	m.grant(1)
	for page := range 3 {
		m.write(page*size, bytes.Repeat([]byte{200}, size))
	}
	for _, at := range []int{1021, 1022, 1023, 2045, 3069, 3072, -1} {
		if place, e := m.a.Place(at); place != 0 || e != api.ErrRange {
			t.Errorf("Place(%d): %d, error %d", at, place, e)
		}
	}
	// Pages that there are not, of arenas all of whose pages are free.
	free := made(t, 2)
	for _, page := range append([]int{2, -1}, wrongPages...) {
		if e := free.a.Return(page); e != api.ErrRange {
			t.Errorf("Return(%d): error %d", page, e)
		}
	}
}

// Promise 5.2: what is handed in is not kept, and not changed.
func TestWhatIsHandedIn(t *testing.T) {
	m := granted(t, 2)
	for _, n := range []int{1, 8, 1023, 1024} {
		room := noise(uint64(n), n+8)
		given := bytes.Clone(room)
		m.write(size, given[:n])
		if e := m.a.Write(size, given[:n]); e != api.OK || !bytes.Equal(given, room) {
			t.Errorf("Write of %d bytes: error %d, or the list was changed", n, e)
		}
		clear(given)
		m.same("a change of the list that was handed in")
		given = bytes.Clone(room)
		if e := m.a.Write(size, given[:n]); e != api.OK {
			t.Errorf("Write of %d bytes: error %d", n, e)
		}
		m.write(size, bytes.Repeat([]byte{9}, n))
		m.setNumber(size, 1, 77)
		if !bytes.Equal(given, room) {
			t.Errorf("a list of %d bytes that was handed in is written to later on", n)
		}
		m.same("a Write over another one")
	}
}

// Promise 5.2: what is handed out is new memory: it shares none with the page, nor with another answer.
func TestWhatIsHandedOut(t *testing.T) {
	m := granted(t, 2)
	for _, n := range []int{1, 8, 100, 1024} {
		first, e1 := m.a.Read(size, n)
		second, e2 := m.a.Read(size, n)
		if e1 != api.OK || e2 != api.OK || len(first) != n || len(second) != n {
			t.Fatalf("Read of %d bytes: errors %d and %d", n, e1, e2)
		}
		before := bytes.Clone(second)
		clear(first[:cap(first)])
		if !bytes.Equal(second, before) {
			t.Errorf("two answers of %d bytes share memory", n)
		}
		m.same("a change of the list that was handed out")
		_ = append(second, 1, 2, 3, 4)
		m.same("a longer list than was handed out")
		second, _ = m.a.Read(size, n)
		before = bytes.Clone(second)
		m.write(size, bytes.Repeat([]byte{byte(n + 3)}, n))
		m.setNumber(size, 1, 200)
		if !bytes.Equal(second, before) {
			t.Errorf("an answer of %d bytes changes when the page does", n)
		}
		m.give(1)
		m.grant(1)
		if !bytes.Equal(second, before) {
			t.Errorf("an answer of %d bytes changes when the page is granted anew", n)
		}
		m.write(size, filling(1))
	}
	b, _ := m.a.Read(0, 0)
	clear(b[:cap(b)])
	m.same("a change of what was handed out")
}

// Promise 5.1: two arenas have nothing in common.
func TestTwoArenas(t *testing.T) {
	first, second := granted(t, 3), made(t, 3)
	second.same("another one's Grants")
	second.grant(5)
	second.write(0, noise(1, size))
	first.same("another one's Grant")
	first.give(2)
	first.write(0, noise(2, size))
	second.same("another one's Write")
	first.same("all of it")
}

// Promise 5.3: calls in many orders, right ones and wrong ones: the pages are all, and bytes are as they were written last.
func TestManyCalls(t *testing.T) {
	for seed := range 40 {
		pages := []int{1, 2, 3, 5, 8, 32}[seed%6]
		m := made(t, pages)
		dice := noise(uint64(seed), 6*400)
		for len(dice) > 0 {
			m.someCall(dice[:6], pages)
			dice = dice[6:]
			m.same("some call")
		}
	}
}

// someCall does the call that six bytes without order tell.
func (m *both) someCall(dice []byte, pages int) {
	m.t.Helper()
	at := int(dice[1])%(pages+1)*size + int(dice[2])%2*1008 + int(dice[3])%24 - 2
	width := []int{1, 2, 4, 8, 0, 3}[int(dice[4])%6]
	v := binary.LittleEndian.Uint64(noise(uint64(dice[5])<<8|uint64(dice[3]), 8)) >> (int(dice[5]) % 64)
	switch dice[0] % 9 {
	case 0, 1:
		m.grant(int(dice[1])%10 - 1)
	case 2:
		m.give(int(dice[1])%(pages+2) - 1)
	case 3:
		m.write(at, noise(uint64(dice[5]), int(dice[4])%40))
	case 4:
		m.write(int(dice[1])%pages*size, noise(uint64(dice[5]), size-int(dice[4])%3))
	case 5:
		m.read(at, int(dice[4])%40-2)
		m.number(at, width)
		m.place(at)
	case 6, 7:
		m.setNumber(at, width, v)
		m.number(at, width)
	case 8:
		m.setPlace(at, int(int64(v))>>(int(dice[2])%40))
		m.place(at)
	}
}

// Promise 5.3: free pages and granted ones are all, whatever was granted and given back.
func TestFreeAndGrantedAreAll(t *testing.T) {
	for pages := 1; pages <= 32; pages++ {
		m := made(t, pages)
		for i := range 3 * pages {
			m.grant(i % 9)
			m.give((i * 5) % (pages + 1))
			held := 0
			for p := range pages {
				if class, e := m.a.Owner(p); e == api.OK && class >= 0 && class < 8 {
					held++
				}
			}
			if held+m.a.Free() != pages || m.a.Pages() != pages {
				t.Fatalf("of %d pages %d are granted, and %d free; Pages: %d", pages, held, m.a.Free(), m.a.Pages())
			}
		}
	}
}

// Promise 5.3: bytes that were written, in one piece or by numbers, are there till they are written over, whatever happens beside.
func TestBytesStay(t *testing.T) {
	m := granted(t, 4)
	m.setNumber(2*size+100, 8, 0x1122334455667788)
	m.setPlace(2*size+108, -1)
	m.write(2*size+112, []byte("as it was"))
	m.give(1)
	m.give(3)
	m.grant(7)
	m.write(size, bytes.Repeat([]byte{1}, size))
	m.grant(0)
	m.give(0)
	m.grant(-1)
	m.same("Grants and Returns of other pages")
	if v, e := m.a.Number(2*size+100, 8); v != 0x1122334455667788 || e != api.OK {
		t.Errorf("the number: %x, error %d", v, e)
	}
	if place, e := m.a.Place(2*size + 108); place != -1 || e != api.OK {
		t.Errorf("the place: %d, error %d", place, e)
	}
	if b, e := m.a.Read(2*size+112, 9); string(b) != "as it was" || e != api.OK {
		t.Errorf("the bytes: %q, error %d", b, e)
	}
	m.setNumber(2*size+104, 2, 0xBEEF)
	if v, e := m.a.Number(2*size+100, 8); v != 0x1122BEEF55667788 || e != api.OK {
		t.Errorf("the number, written over in part: %x, error %d", v, e)
	}
}
