package store

import (
	"cmp"
	"encoding/binary"
	"fmt"
	"reflect"
	"slices"
	"strconv"
	"strings"
	"testing"

	"tallboy/api"
	"tallboy/classes"
)

// wantRecover is Recover by the document's words, and how many items stay.
func wantRecover(t *testing.T, pages []Page, roots []int, over, under int, laid uint64) (*want, int, api.Errno) {
	t.Helper()
	w, e := wantNew(len(pages), over, under)
	if e != 0 {
		return nil, 0, e
	}
	for i, p := range pages {
		switch {
		case p.Class < -1 || p.Class >= len(w.sizes), p.Class == -1 && p.Bytes != "", p.Class >= 0 && len(p.Bytes) != size:
			return nil, 0, 6
		}
		w.owner[i] = p.Class
	}
	var found []*thing
	segs := map[*thing]int{}
	for _, at := range roots {
		x, seg := w.foundAt(memory{t, pages}, at, found)
		if x != nil {
			found, segs[x] = append(found, x), seg
		}
	}
	w.laid = laid
	for i, x := range found {
		stays := true
		for j, other := range found {
			if other.key == x.key && (other.cas > x.cas || other.cas == x.cas && j < i) {
				stays = false
			}
		}
		if stays {
			w.linked[x.key] = x
			w.segs[x.class][segs[x]] = append(w.segs[x.class][segs[x]], x)
			w.laid = max(w.laid, x.cas)
		}
	}
	for class := range w.segs {
		for seg := range w.segs[class] {
			slices.SortFunc(w.segs[class][seg], func(a, b *thing) int {
				return cmp.Or(cmp.Compare(b.cas, a.cas), cmp.Compare(b.places[0], a.places[0]))
			})
		}
	}
	for page, class := range w.owner {
		for _, at := range w.chunks(page) {
			if w.with(at) == nil {
				w.lists[class] = append(w.lists[class], at)
			}
		}
	}
	return w, len(w.linked), 0
}

// foundAt is the item that is found at a root, and its segment, by the document's words; nil: there is none.
func (w *want) foundAt(m memory, at int, found []*thing) (*thing, int) {
	taken := map[int]bool{}
	for _, x := range found {
		for _, place := range x.places {
			taken[place] = true
		}
	}
	class := w.class(at)
	if class < 0 || taken[at] {
		return nil, 0
	}
	bits, seg, n, value := int(m.number(at+36, 1)), int(m.number(at+35, 1)), int(m.number(at+34, 1)), int(m.number(at+32, 2))
	if bits > 7 || bits%2 == 0 || seg > 2 || n < 1 || n > 32 || at%size+40+n > size || value > 2000 {
		return nil, 0
	}
	key := m.text(at+40, n)
	for _, c := range []byte(key) {
		if c < 33 || c > 126 {
			return nil, 0
		}
	}
	needs, count := w.need(n, value)
	if needs != class {
		return nil, 0
	}
	x := &thing{key: key, flags: uint32(m.number(at+28, 4)), ends: uint32(m.number(at+24, 4)), cas: m.number(at+16, 8), class: class,
		fetched: bits&2 != 0, active: bits&4 != 0, places: []int{at}}
	taken[at] = true
	next := m.place(at + 12)
	for len(x.places) < count {
		if next < 0 || w.class(next) != len(w.sizes)-1 || taken[next] {
			return nil, 0
		}
		taken[next] = true
		x.places = append(x.places, next)
		next = m.place(next)
	}
	if next != -1 {
		return nil, 0
	}
	x.value = w.valueIn(m, x, n, value)
	return x, seg
}

// valueIn is the value that lies in an item's chunks.
func (w *want) valueIn(m memory, x *thing, key, value int) string {
	v, head := "", 40+key
	for _, place := range x.places {
		v += m.text(place+head, min(value-len(v), w.sizes[x.class]-head))
		head = 4
	}
	return v
}

// recovered is the store that Recover makes, and what it must be; nothing, if it answers an error.
func (b *both) recovered(pages []Page, roots []int, over, under int, laid uint64) *both {
	b.t.Helper()
	wantPages, wantRoots := slices.Clone(pages), slices.Clone(roots)
	s, n, e := Recover(pages, roots, over, under, laid)
	if !reflect.DeepEqual(pages, wantPages) || !reflect.DeepEqual(roots, wantRoots) {
		b.t.Fatalf("Recover changed what was handed in")
	}
	w, wn, we := wantRecover(b.t, pages, roots, over, under, laid)
	b.must(fmt.Sprintf("Recover of %d pages, the roots %v, %d %d", len(pages), roots, over, under), told(n, e, s == nil), told(wn, we, w == nil))
	if s == nil {
		return nil
	}
	made := &both{b.t, s, w, b.m}
	made.same("Recover")
	made.sameRest(pages)
	return made
}

// sameRest holds the bytes of a store that was just recovered: all that are no place in a header, no hold, and no free chunk's place.
func (b *both) sameRest(pages []Page) {
	b.t.Helper()
	got, _, _ := b.s.Raw()
	for i, p := range pages {
		was, is := []byte(p.Bytes), []byte(got[i].Bytes)
		for _, at := range b.w.chunks(i) {
			from := at % size
			n := 0
			if b.w.status(at) == 1 {
				n = 12
				was[from+37], is[from+37] = 0, 0
			} else if b.w.status(at) == 0 {
				n = 4
			}
			clear(was[from : from+n])
			clear(is[from : from+n])
		}
		if string(was) != string(is) {
			b.t.Fatalf("the bytes of page %d behind Recover are others", i)
		}
	}
}

// sizesOf is the table of a factor.
func sizesOf(t *testing.T, over, under int) []int {
	t.Helper()
	sizes, e := classes.Table(over, under)
	if e != 0 {
		t.Fatalf("classes.Table(%d, %d): error %d", over, under, e)
	}
	return sizes
}

// letterPage is a page of the class of 64 bytes: its items, one behind the other, and noughts.
func letterPage(items ...string) Page {
	var b strings.Builder
	for _, x := range items {
		b.WriteString(x + strings.Repeat("\x00", 64-len(x)))
	}
	return Page{0, b.String() + strings.Repeat("\x00", size-b.Len())}
}

// withPlace is a copy of a text with a place laid in, its lowest byte first.
func withPlace(s string, at, place int) string {
	b := []byte(s)
	binary.LittleEndian.PutUint32(b[at:], uint32(int32(place)))
	return string(b)
}

// withByte is a copy of a text with another byte.
func withByte(s string, at int, v byte) string {
	b := []byte(s)
	b[at] = v
	return string(b)
}

// recoverOf does a Recover of sizes 64 128 256 512 1024, and fails, if other keys stay.
func recoverOf(t *testing.T, pages []Page, roots []int, laid uint64, keys ...string) *both {
	t.Helper()
	b := (&both{t: t}).recovered(pages, roots, 2, 1, laid)
	if b == nil {
		t.Fatalf("Recover refuses its pages")
	}
	if got := b.s.Keys(); !slices.Equal(got, keys) {
		t.Fatalf("Recover: the keys %q stay, not %q", got, keys)
	}
	return b
}

// TestRaw (20.6): each page's class and bytes, the roots of linked items, rising, and the number.
func TestRaw(t *testing.T) {
	b := made(t, 4, 2, 1)
	pages, roots, laid := b.s.Raw()
	if !slices.Equal(pages, slices.Repeat([]Page{{-1, ""}}, 4)) || len(roots) != 0 || laid != 0 {
		t.Errorf("Raw of a new store: %v, %v, %d", pages, roots, laid)
	}
	b.did(set("c", "v"), stored)
	b.did(set("big", long(1500)), stored)
	b.did(set("a", "v"), stored)
	b.did(set("b", "v"), stored)
	b.did(set("c", "v"), stored)
	b.hold(b.find("b", 1000))
	b.did(one(api.Delete, "b"), deleted)
	b.went(256, WasFree, "")
	pages, roots, laid = b.s.Raw()
	if !slices.Equal(roots, []int{64, 192, 1024}) || laid != 5 {
		t.Errorf("Raw: roots %v, number %d", roots, laid)
	}
	for i, class := range []int{0, 4, 4, -1} {
		if pages[i].Class != class || (len(pages[i].Bytes) != size) != (class < 0) {
			t.Errorf("page %d: class %d, %d bytes", i, pages[i].Class, len(pages[i].Bytes))
		}
	}
	if at := strings.Index(pages[2].Bytes, long(1500)[981:1500]); at != 4 {
		t.Errorf("the rest of a value lies at %d of its further chunk", at)
	}
}

// TestKept (20.4, 20.6): Recover of Raw has the same keys and entries, the number, and no counts; what is loose, or taken, is free.
func TestKept(t *testing.T) {
	b := made(t, 4, 2, 1)
	b.did(api.Command{Kind: api.Set, Keys: []string{"a"}, Value: "v", Flags: 5, Exp: 70}, stored)
	b.did(set(big, long(2000)), stored)
	b.did(api.Command{Kind: api.Set, Keys: []string{"gone"}, Exp: -1}, stored)
	b.did(set("loose", "v"), stored)
	b.did(set("held", "v"), stored)
	b.did(api.Command{Kind: api.Get, Keys: []string{big, "a", "a"}}, values)
	for range 3 {
		b.hold(b.find("held", 0))
		b.hold(b.find("loose", 0))
		b.juggle(0)
	}
	b.did(one(api.Delete, "loose"), deleted)
	b.went(256, WasFree, "")
	b.evict(4)
	b.did(set(big, long(2000)), stored)
	b.hold(b.find(big, 0))
	b.did(set("failed", long(2000)), noMemory)
	pages, roots, laid := b.s.Raw()
	k := b.recovered(pages, roots, 2, 1, laid)
	if keys := k.s.Keys(); !slices.Equal(keys, []string{big, "a", "gone", "held"}) {
		t.Errorf("keys: %q", keys)
	}
	for _, key := range k.s.Keys() {
		was, _ := b.s.Entry(key)
		if is, ok := k.s.Entry(key); !ok || is != was {
			t.Errorf("%q: %+v, %v, not %+v", key, is, ok, was)
		}
	}
	k.are(0, 1, 1, 0, 1, 0, 0, 0, 0, 0, 0, 0, 0, 0, 0, 0, 0)
	k.counted(0, Count{})
	k.counted(4, Count{})
	if e := k.s.Release(k.find("held", 0)); e != 5 {
		t.Errorf("Release of what was held ahead: error %d", e)
	}
	if b.bitsOf("a") != 3 || k.bitsOf("a") != 3 {
		t.Errorf("FBits of a: %d, %d", b.bitsOf("a"), k.bitsOf("a"))
	}
	k.did(set("x", "v"), stored)
	if x, _ := k.s.Entry("x"); x.Cas != laid+1 || laid != 6 {
		t.Errorf("Cas of what is laid in next: %d", x.Cas)
	}
	b.same("Recover of its pages")
}

// TestKeptOrder (20.6): each is in its FSeg's queue, with its FBits, by FCas, the greatest first, of the same the one with the greater address.
func TestKeptOrder(t *testing.T) {
	p := letterPage(header(5, 0, 1, 0, "a", ""), header(9, 0, 3, 0, "b", ""), header(5, 0, 7, 250, "c", ""), header(1<<63, 0, 1, 0, "d", ""),
		header(0, 2, 5, 0, "e", ""), header(0, 2, 1, 0, "f", ""), header(3, 1, 1, 255, "g", ""), header(2, 1, 1, 0, "h", ""))
	roots := []int{448, 0, 320, 64, 128, 192, 256, 384}
	b := recoverOf(t, []Page{p}, roots, 77, "a", "b", "c", "d", "e", "f", "g", "h")
	if hot, warm, cold := b.s.Segments(0); hot != 4 || warm != 2 || cold != 2 {
		t.Errorf("segments: %d %d %d", hot, warm, cold)
	}
	pages, got, laid := b.s.Raw()
	slices.Sort(roots)
	if !slices.Equal(got, roots) || laid != 1<<63 {
		t.Errorf("Raw: roots %v, number %d", got, laid)
	}
	m := memory{t, pages}
	for at, next := range map[int]int{192: 64, 64: 128, 128: 0, 0: -1, 320: 256, 256: -1, 384: 448, 448: -1} {
		if m.place(at+8) != next {
			t.Errorf("behind %d stands %d, not %d", at, m.place(at+8), next)
		}
	}
	for i, bits := range []uint64{1, 3, 7, 1, 5, 1, 1, 1} {
		if m.number(i*64+36, 1) != bits || m.number(i*64+37, 1) != 0 {
			t.Errorf("FBits and FRefs of %s: %d, %d", letters(8)[i], m.number(i*64+36, 1), m.number(i*64+37, 1))
		}
	}
	for _, key := range []string{"e", "f", "h", "g", "a", "c", "b", "d"} {
		if got, e := b.s.Evict(0); got != key || e != 0 {
			t.Errorf("Evict: %q, error %d, not %q", got, e, key)
		}
	}
}

// TestRecoverRefuses (20.6): New's error, and then a page that may not be.
func TestRecoverRefuses(t *testing.T) {
	right := Page{4, long(size)}
	for _, n := range []int{0, 33, 64, 500} {
		for _, p := range []Page{right, {5, long(size)}, {0, ""}} {
			if s, items, e := Recover(slices.Repeat([]Page{p}, n), nil, 2, 1, 5); s != nil || items != 0 || e != 1 {
				t.Errorf("Recover of %d pages: %v, %d, error %d", n, s != nil, items, e)
			}
		}
	}
	for _, f := range [][2]int{{1, 1}, {5, 1}, {3, 0}, {-2, -1}, {101, 101}} {
		for _, p := range []Page{right, {5, long(size)}} {
			if s, items, e := Recover([]Page{p}, nil, f[0], f[1], 5); s != nil || items != 0 || e != 1 {
				t.Errorf("Recover by %d / %d: %v, %d, error %d", f[0], f[1], s != nil, items, e)
			}
		}
	}
	wrong := []Page{{4, ""}, {4, long(size - 1)}, {0, long(size + 1)}, {0, long(2 * size)}, {-1, long(size)}, {-1, "x"}, {-1, "\x00"}}
	for _, class := range append(wrongClasses, 5, 7) {
		if class != -1 {
			wrong = append(wrong, Page{class, long(size)}, Page{class, ""})
		}
	}
	for _, p := range wrong {
		for at := range 4 {
			pages := slices.Repeat([]Page{{-1, ""}, right}, 2)
			pages[at] = p
			if s, items, e := Recover(pages, []int{0}, 2, 1, 5); s != nil || items != 0 || e != 6 {
				t.Errorf("Recover with page %d of class %d, %d bytes: %v, %d, error %d", at, p.Class, len(p.Bytes), s != nil, items, e)
			}
		}
	}
}

// TestRecoverPages (20.6): pages are granted as they say, whatever stands beside them; what is no item is free, each list rising.
func TestRecoverPages(t *testing.T) {
	for _, f := range [][2]int{{2, 1}, {3, 2}, {4, 1}, {101, 100}} {
		n := len(sizesOf(t, f[0], f[1]))
		for seed := range 40 {
			d := rolled(uint64(seed), 200)
			var pages []Page
			for range 1 + d.next(32) {
				p := Page{d.next(n+2) - 1, long(size)}
				if p.Class >= n {
					p.Class = n - 1
				}
				if p.Class < 0 {
					p.Bytes = ""
				}
				pages = append(pages, p)
			}
			b := (&both{t: t}).recovered(pages, nil, f[0], f[1], uint64(seed))
			for range 40 {
				key := string(rune('a'+d.next(26))) + string(rune('a'+d.next(26)))
				b.do(set(key, long(d.next(2001))), 1000)
			}
			b.same("Sets")
		}
	}
}

// TestFoundOne (20.6): what must be said by a header, each by itself: all else is as that of an item.
func TestFoundOne(t *testing.T) {
	is := header(7, 1, 3, 9, "k", "value")
	at := func(i int, v byte) string { return withByte(is, i, v) }
	for _, x := range []struct {
		name   string
		item   string
		is     bool
		wanted string
	}{
		{"as it is", is, true, "k"},
		{"other flags, end and holds", at(29, 255)[:24] + "\xff\xff\xff\xff" + at(29, 255)[28:37] + "\xff" + is[38:], true, "k"},
		{"other places", "\x01\x02\x03\x04\xff\xff\xff\x00\xfe\xff\xff\xff" + is[12:], true, "k"},
		{"other bytes behind the fields", is[:38] + "\xff\xff" + is[40:], true, "k"},
		{"FBits 1", at(36, 1), true, "k"}, {"FBits 5", at(36, 5), true, "k"}, {"FBits 7", at(36, 7), true, "k"},
		{"FBits 0", at(36, 0), false, ""}, {"FBits 2", at(36, 2), false, ""}, {"FBits 4", at(36, 4), false, ""}, {"FBits 6", at(36, 6), false, ""},
		{"FBits 8", at(36, 8), false, ""}, {"FBits 9", at(36, 9), false, ""}, {"FBits 255", at(36, 255), false, ""},
		{"FSeg 0", at(35, 0), true, "k"}, {"FSeg 2", at(35, 2), true, "k"}, {"FSeg 3", at(35, 3), false, ""}, {"FSeg 255", at(35, 255), false, ""},
		{"FKey 0", at(34, 0), false, ""}, {"FKey 2", at(34, 2), true, "kv"}, {"FKey 33", at(34, 33), false, ""}, {"FKey 255", at(34, 255), false, ""},
		{"a blank as the key", at(40, ' '), false, ""}, {"127 as the key", at(40, 127), false, ""}, {"! as the key", at(40, '!'), true, "!"}, {"~ as the key", at(40, '~'), true, "~"},
		{"a value that is just not too long", at(32, 23), true, "k"}, {"a value of the next class", at(32, 24), false, ""},
		{"a value that is much too long", at(33, 255), false, ""}, {"a value of 2001", is[:32] + "\xd1\x07" + is[34:], false, ""},
		{"FMore 0", withPlace(is, 12, 0), false, ""}, {"FMore of another chunk", withPlace(is, 12, 1024), false, ""},
		{"FMore none of a place", withPlace(is, 12, -2), false, ""}, {"FMore far away", withPlace(is, 12, 1<<30), false, ""},
	} {
		t.Run(x.name, func(t *testing.T) {
			// FNext is none in page 1: so that FMore could go on, and end.
			pages := []Page{letterPage(x.item), {4, strings.Repeat("\xff", size)}}
			if x.is {
				b := recoverOf(t, pages, []int{0}, 0, x.wanted)
				b.are(0, 1, 0, 0, 0, 0, 0, 0, 0, 0, 0, 0, 0, 0, 0, 0, 0)
				return
			}
			b := recoverOf(t, pages, []int{0}, 3)
			b.are(0, slices.Repeat([]int{Free}, 16)...)
			if _, roots, laid := b.s.Raw(); len(roots) != 0 || laid != 3 {
				t.Errorf("Raw: roots %v, number %d", roots, laid)
			}
		})
	}
}

// TestRoots (20.6): where a root may be, and how often; where it is none nothing is found.
func TestRoots(t *testing.T) {
	p := letterPage(header(7, 0, 1, 0, "a", ""), header(8, 0, 1, 0, "b", ""))
	pages := []Page{p, {-1, ""}}
	recoverOf(t, pages, nil, 9)
	recoverOf(t, pages, []int{64}, 9, "b")
	recoverOf(t, pages, append(farAways, 1, 63, 65, 1024, 1088, 2048, 128, 960), 9)
	recoverOf(t, pages, append(append([]int{64, 64, 0}, farAways...), 0, 64, 1, 0), 9, "a", "b")
	// A header in the middle of a chunk is none.
	inside := []byte(p.Bytes)
	copy(inside[96:], header(9, 0, 1, 0, "c", ""))
	recoverOf(t, []Page{{0, string(inside)}}, []int{96, 0}, 9, "a")
	// As is one in the rest of a page that is no chunk: 144 goes 7 times into 1024.
	b := (&both{t: t}).recovered([]Page{{2, strings.Repeat("\xff", 1008) + header(9, 0, 1, 0, "c", "")[:16]}}, []int{1008, 864}, 3, 2, 0)
	if keys := b.s.Keys(); len(keys) != 0 {
		t.Errorf("keys: %q", keys)
	}
}

// TestOneKey (20.6): of items with one key the greatest Cas stays, of the same the one that was found first; the chunks of the others are free.
func TestOneKey(t *testing.T) {
	p := letterPage(header(7, 0, 1, 0, "k", "0"), header(9, 0, 1, 0, "k", "1"), header(9, 0, 1, 0, "k", "2"), header(8, 0, 1, 0, "k", "3"), header(1, 0, 1, 0, "m", ""))
	for _, x := range []struct {
		roots []int
		value string
	}{
		{[]int{0, 64, 128, 192, 256}, "1"}, {[]int{256, 192, 128, 64, 0}, "2"}, {[]int{128, 256, 0, 64}, "2"},
		{[]int{0, 192, 256}, "3"}, {[]int{192, 0, 256}, "3"}, {[]int{256, 0}, "0"},
	} {
		b := recoverOf(t, []Page{p}, x.roots, 0, "k", "m")
		if e, _ := b.s.Entry("k"); e.Value != x.value {
			t.Errorf("of the roots %v the item %q stays, not %q", x.roots, e.Value, x.value)
		}
		used := 0
		list, _ := b.s.Chunks(0)
		for _, status := range list {
			used += status
		}
		if used != 2 {
			t.Errorf("of the roots %v these chunks are used: %v", x.roots, list)
		}
	}
	// What does not stay has its chunks while items are found, and its number does not count.
	first := withPlace(header(5, 0, 1, 0, "k", long(1500)), 12, 1024)
	other := header(9, 0, 1, 0, "k", long(900))
	last := withPlace(header(3, 0, 1, 0, "z", long(1500)), 12, 1024)
	further := "\xff\xff\xff\xff" + long(1020)
	pages := []Page{{4, first[:size]}, {4, further}, {4, (other + long(size))[:size]}, {4, last[:size]}}
	b := recoverOf(t, pages, []int{0, 2048, 3072}, 2, "k")
	if _, roots, laid := b.s.Raw(); !slices.Equal(roots, []int{2048}) || laid != 9 {
		t.Errorf("Raw: roots %v, number %d", roots, laid)
	}
	recoverOf(t, pages, []int{3072, 2048, 0}, 2, "k", "z")
	recoverOf(t, pages, []int{3072, 0}, 2, "z")
	recoverOf(t, pages, []int{0, 3072}, 2, "k")
}

// TestFurther (20.6): further chunks begin a chunk of the last class, in a page of it, that nobody has, each once; as many as are needed.
func TestFurther(t *testing.T) {
	two := header(7, 0, 1, 0, "k", long(1500))[:size]
	three := header(7, 0, 1, 0, big, long(2000))[:size]
	further := func(next int) string { return withPlace(long(size), 0, next) }
	last := func(b string) Page { return Page{4, b} }
	small := Page{0, strings.Repeat("\xff", size)}
	half := Page{3, strings.Repeat("\xff", size)}
	for _, x := range []struct {
		name  string
		pages []Page
		is    bool
	}{
		{"two", []Page{last(withPlace(two, 12, 1024)), last(further(-1))}, true},
		{"three", []Page{last(withPlace(three, 12, 2048)), last(further(-1)), last(further(1024))}, true},
		{"one alone", []Page{last(withPlace(two, 12, -1)), last(further(-1))}, false},
		{"one too few", []Page{last(withPlace(three, 12, 2048)), last(further(-1)), last(further(-1))}, false},
		{"one too many", []Page{last(withPlace(two, 12, 2048)), last(further(-1)), last(further(1024))}, false},
		{"a free page", []Page{last(withPlace(two, 12, 1024)), {-1, ""}}, false},
		{"no page", []Page{last(withPlace(two, 12, 2048)), last(further(-1))}, false},
		{"the middle of a chunk", []Page{last(withPlace(two, 12, 1028)), last(withPlace(further(-1), 4, -1))}, false},
		{"a chunk of a small class", []Page{last(withPlace(two, 12, 1024)), small}, false},
		{"a chunk of the last class but one", []Page{last(withPlace(two, 12, 1536)), half}, false},
		{"itself", []Page{last(withPlace(withPlace(two, 12, 0), 0, -1)), last(further(-1))}, false},
		{"itself, and round", []Page{last(withPlace(withPlace(three, 12, 0), 0, 0)), last(further(-1))}, false},
		{"itself, and another one", []Page{last(withPlace(withPlace(three, 12, 0), 0, 1024)), last(further(-1))}, false},
		{"another one, and itself", []Page{last(withPlace(withPlace(three, 12, 1024), 0, -1)), last(further(0))}, false},
		{"one twice", []Page{last(withPlace(three, 12, 1024)), last(further(1024))}, false},
		{"a place that is none", []Page{last(withPlace(two, 12, 1024)), last(further(-2))}, false},
	} {
		t.Run(x.name, func(t *testing.T) {
			var keys []string
			if x.is {
				keys = []string{"k"}
			}
			if x.is && len(x.pages) == 3 {
				keys = []string{big}
			}
			recoverOf(t, x.pages, []int{0}, 0, keys...)
		})
	}
}

// TestTwoClaim (20.6): a chunk that two items have is that one's that is found first; also one that is the one's first, and the other one's further one.
func TestTwoClaim(t *testing.T) {
	// The further chunk's bytes say of an item by themselves.
	like := withPlace(header(9, 0, 1, 0, "like", long(900)), 0, -1) + long(size)
	pages := []Page{{4, withPlace(header(7, 0, 1, 0, "k", long(1500)), 12, 1024)[:size]}, {4, like[:size]}}
	b := recoverOf(t, pages, []int{0, 1024}, 0, "k")
	b.are(1, Member)
	if _, _, laid := b.s.Raw(); laid != 7 {
		t.Errorf("the number: %d", laid)
	}
	b = recoverOf(t, pages, []int{1024, 0}, 0, "like")
	b.are(0, Free)
	// An item that is none of these takes nothing away from those behind it.
	pages[0].Bytes = withByte(pages[0].Bytes, 36, 0)
	recoverOf(t, pages, []int{0, 1024}, 0, "like")
}

// TestNumberOf (20.6): the number is what was handed in, or the greatest Cas of those that stay.
func TestNumberOf(t *testing.T) {
	p := letterPage(header(7, 0, 1, 0, "a", ""), header(1<<64-2, 0, 8, 0, "b", ""), header(6, 0, 1, 0, "c", ""))
	for laid, want := range map[uint64]uint64{0: 7, 6: 7, 7: 7, 8: 8, 1 << 63: 1 << 63} {
		b := recoverOf(t, []Page{p}, []int{0, 64, 128}, laid, "a", "c")
		if _, _, got := b.s.Raw(); got != want {
			t.Errorf("the number behind %d: %d, not %d", laid, got, want)
		}
		b.did(set("x", ""), stored)
		if x, _ := b.s.Entry("x"); x.Cas != want+1 {
			t.Errorf("Cas of what is laid in next: %d, not %d", x.Cas, want+1)
		}
	}
}

// TestRecoverGrows (20.6): the table has 8 buckets, however many items there are.
func TestRecoverGrows(t *testing.T) {
	b := made(t, 3, 2, 1)
	b.m = nil
	for i := range 40 {
		b.do(set("k"+strconv.Itoa(i), "v"), 1000)
	}
	for range 100 {
		b.grow()
	}
	pages, roots, laid := b.s.Raw()
	k := b.recovered(pages, roots, 2, 1, laid)
	for range 70 {
		k.grow()
	}
	k.same("Grow")
}

// spoil changes what was kept: bytes, fields, places, roots, pages.
func (w *walk) spoil(pages []Page, roots []int) ([]Page, []int) {
	for range w.d.next(7) {
		switch n := w.d.next(40); {
		case n < 20:
			w.spoilHeader(pages, roots)
		case n < 25:
			w.copyChunk(pages, &roots)
		case n < 28:
			roots = append(roots, w.address())
		case n < 31 && len(roots) > 0:
			i, j := w.d.next(len(roots)), w.d.next(len(roots))
			roots[i], roots[j] = roots[j], roots[i]
		case n < 33 && len(roots) > 0:
			roots = append(roots, roots[w.d.next(len(roots))])
		case n < 34 && len(roots) > 0:
			roots = slices.Delete(roots, 0, 1)
		case n < 37:
			w.spoilByte(pages)
		case n < 40:
			w.spoilPage(pages)
		}
	}
	return pages, roots
}

// spoilHeader changes a field of an item.
func (w *walk) spoilHeader(pages []Page, roots []int) {
	if len(roots) == 0 {
		return
	}
	at := roots[w.d.next(len(roots))]
	if at < 0 || at >= len(pages)*size || len(pages[at/size].Bytes) != size || at%size+41 > size {
		return
	}
	p := &pages[at/size]
	from := at % size
	field := []int{0, 12, 12, 12, 16, 16, 23, 32, 33, 34, 35, 36, 37, 40}[w.d.next(14)]
	if field == 0 || field == 12 {
		p.Bytes = withPlace(p.Bytes, from+field, []int{-1, w.address(), w.address(), w.d.next(65536)}[w.d.next(4)])
		return
	}
	p.Bytes = withByte(p.Bytes, from+field, byte(w.d.next(8)*w.d.next(40)))
}

// copyChunk lays a chunk's bytes into another one of its class, as one more root: so there is a key twice.
func (w *walk) copyChunk(pages []Page, roots *[]int) {
	from, to := w.address(), w.address()
	class := w.w.class(from)
	if class < 0 || w.w.class(to) != class || len(pages[from/size].Bytes) != size || len(pages[to/size].Bytes) != size {
		return
	}
	n := w.w.sizes[class]
	b := []byte(pages[to/size].Bytes)
	copy(b[to%size:to%size+n], pages[from/size].Bytes[from%size:])
	pages[to/size].Bytes = string(b)
	*roots = append(*roots, to)
}

// spoilByte changes one byte of a page.
func (w *walk) spoilByte(pages []Page) {
	p := &pages[w.d.next(len(pages))]
	if len(p.Bytes) == size {
		p.Bytes = withByte(p.Bytes, w.d.next(size), byte(w.d.next(256)))
	}
}

// spoilPage changes a page's class, or what bytes it has.
func (w *walk) spoilPage(pages []Page) {
	p := &pages[w.d.next(len(pages))]
	switch w.d.next(12) {
	case 0, 1, 2:
		*p = Page{Class: -1}
	case 3, 4, 5:
		*p = Page{len(w.w.sizes) - 1, withPlace(long(size), 0, -1)}
	case 6, 7, 8, 9:
		if p.Class >= 0 {
			p.Class = w.d.next(len(w.w.sizes))
		}
	case 10:
		p.Class = w.class()
	case 11:
		p.Bytes = p.Bytes[:len(p.Bytes)/2]
	}
}

// spoiled does steps, spoils what was kept of the store, and does steps with what Recover makes of it.
func (w *walk) spoiled() {
	w.t.Helper()
	for range 5 {
		for range 60 {
			w.step()
		}
		pages, roots, laid := w.s.Raw()
		pages, roots = w.spoil(pages, roots)
		w.m = nil
		if b := w.recovered(pages, roots, w.over, w.under, laid/uint64(1+w.d.next(3))); b != nil {
			w.both, w.held = b, nil
		}
		w.sameModel(w.now)
	}
}

// TestSpoiled (20.6): of pages and roots that lie Recover makes what the words say, and a store that lives.
func TestSpoiled(t *testing.T) {
	for seed := range uint64(300) {
		t.Run(strconv.Itoa(int(seed)), func(t *testing.T) {
			t.Parallel()
			begin(t, rolled(5000+seed, 8000)).spoiled()
		})
	}
}

// FuzzSpoiled (20.6): the same, with what a fuzzer rolls.
func FuzzSpoiled(f *testing.F) {
	for seed := range uint64(8) {
		f.Add(rolled(7000+seed, 4000).b)
	}
	f.Fuzz(func(t *testing.T, b []byte) {
		if len(b) > 6000 {
			return
		}
		begin(t, &dice{b: b}).spoiled()
	})
}

// FuzzRecover (20.6): of any bytes, as pages with any roots, Recover makes what the words say.
func FuzzRecover(f *testing.F) {
	f.Add([]byte{1, 5, 1}, []byte{0, 0, 0, 64}, []byte(header(7, 0, 1, 0, "k", "value")))
	f.Add([]byte{5, 5, 0}, []byte{4, 0, 0, 0}, []byte(header(7, 0, 1, 0, "k", long(1500))))
	f.Fuzz(func(t *testing.T, classes, roots, b []byte) {
		if len(classes) == 0 || len(classes) > 8 || len(roots) > 64 || len(b) > 8*size {
			return
		}
		b = append(b, make([]byte, 8*size-len(b))...)
		var pages []Page
		for i, class := range classes {
			p := Page{int(class)%6 - 1, string(b[i*size : (i+1)*size])}
			if p.Class < 0 {
				p.Bytes = ""
			}
			pages = append(pages, p)
		}
		var list []int
		for i := 0; i+1 < len(roots); i += 2 {
			list = append(list, int(roots[i])*256+int(roots[i+1]))
		}
		(&both{t: t}).recovered(pages, list, 2, 1, 7)
	})
}
