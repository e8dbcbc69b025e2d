package store

import (
	"math"
	"slices"
	"strings"
	"testing"

	"tallboy/api"
)

// header is bytes that say of an item that is in no table: its fields, its key, and its value.
func header(cas uint64, seg, bits, refs byte, key, value string) string {
	b := make([]byte, 40)
	for i := range 16 {
		b[i] = 255
	}
	for i := range 8 {
		b[16+i] = byte(cas >> (8 * i))
	}
	b[32], b[33], b[34], b[35], b[36], b[37] = byte(len(value)), byte(len(value)>>8), byte(len(key)), seg, bits, refs
	return string(b) + key + value
}

// TestFind (20.2): an item with its key; one that is gone is unlinked, and counted once.
func TestFind(t *testing.T) {
	b := made(t, 3, 2, 1)
	b.did(set("a", "v"), stored)
	b.did(set("big", long(1500)), stored)
	c := set("soon", long(20))
	c.Exp = 5
	b.did(c, stored)
	b.lies("a", 0)
	b.lies("big", 1024)
	for _, now := range []int64{1004, 1, 0, -1, math.MinInt64, 1004} {
		if at := b.find("soon", now); at != 128 && at != 64 {
			t.Errorf("Find at %d: %d", now, at)
		}
	}
	b.counted(0, Count{})
	b.find("soon", 1005)
	b.same("Find of one that is gone")
	b.counted(0, Count{Expired: 1})
	b.find("soon", 1005)
	b.counted(0, Count{Expired: 1})
	for _, key := range []string{"", "b", "A", "a ", "a\x00", "a b", strings.Repeat("a", 33), string(make([]byte, 5000))} {
		if at, ok := b.s.Find(key, 1000); at != 0 || ok {
			t.Errorf("Find(%q): %d, %v", key, at, ok)
		}
	}
	c.Exp = -1
	b.did(c, stored)
	b.find("soon", 0)
	b.counted(0, Count{Expired: 1})
	b.find("soon", 1)
	b.counted(0, Count{Expired: 2})
	b.did(c, stored)
	b.find("soon", math.MaxInt64)
	b.counted(0, Count{Expired: 3})
	b.same("Find")
}

// TestFindHeld (20.2): an item that is gone, and held, is loose when it is found.
func TestFindHeld(t *testing.T) {
	b := made(t, 4, 2, 1)
	c := set("big", long(1500))
	c.Exp = 5
	b.did(c, stored)
	at := b.find("big", 1000)
	b.hold(at)
	b.find("big", 1005)
	b.same("Find of one that is gone")
	b.are(0, Loose)
	b.are(1, Member)
	b.counted(4, Count{Expired: 1})
	b.did(c, stored)
	b.lies("big", 2048)
	b.release(at)
	b.same("Release")
	b.are(0, Free)
	b.are(1, Free)
	b.are(2, Linked)
	b.are(3, Member)
}

// TestEvict (20.2): the one that goes first, and its key; no class, no item, all held.
func TestEvict(t *testing.T) {
	b := filled(t, 2, 7)
	for _, class := range append(wrongClasses, 5) {
		if key, e := b.s.Evict(class); key != "" || e != 1 {
			t.Errorf("Evict(%d): %q, error %d", class, key, e)
		}
	}
	if key, e := b.s.Evict(1); key != "" || e != 3 {
		t.Errorf("Evict of a class without items: %q, error %d", key, e)
	}
	for _, key := range letters(5) {
		b.hold(b.find(key, 1000))
	}
	if key, e := b.s.Evict(0); key != "" || e != 8 {
		t.Errorf("Evict of a class whose first five are held: %q, error %d", key, e)
	}
	b.counted(0, Count{})
	b.release(b.find("e", 1000))
	b.evict(0)
	b.same("Evict")
	b.counted(0, Count{Evicted: 1})
	if _, ok := b.s.Entry("e"); ok {
		t.Errorf("what was evicted is there")
	}
	b.evict(0)
	b.evict(0)
	b.evict(0)
	b.counted(0, Count{Evicted: 3})
	b.same("Evict of all that is not held")
}

// TestHold (20.2): up to 250 times; what is held is not freed, and not evicted.
func TestHold(t *testing.T) {
	b := filled(t, 1, 3)
	at := b.find("b", 1000)
	for range 250 {
		b.hold(at)
	}
	b.same("250 Holds")
	if e := b.s.Hold(at); e != 2 {
		t.Errorf("the 251st Hold: error %d", e)
	}
	b.same("the 251st Hold")
	b.did(one(api.Delete, "b"), deleted)
	if e := b.s.Hold(at); e != 2 {
		t.Errorf("a Hold of a loose one that is held 250 times: error %d", e)
	}
	b.release(at)
	b.hold(at)
	for i := range 250 {
		b.are(0, 1, 2, 1, 0, 0, 0, 0, 0, 0, 0, 0, 0, 0, 0, 0, 0)
		if b.release(at); i == 100 {
			b.same("Release")
		}
	}
	b.are(0, 1, 0, 1, 0, 0, 0, 0, 0, 0, 0, 0, 0, 0, 0, 0, 0)
	b.same("the last Release")
	for _, e := range []api.Errno{b.s.Hold(at), b.s.Release(at)} {
		if e != 3 {
			t.Errorf("of what is free: error %d", e)
		}
	}
}

// TestRelease (20.2): of an item that nobody holds; of one that is linked the last hold frees nothing.
func TestRelease(t *testing.T) {
	b := filled(t, 1, 3)
	at := b.find("b", 1000)
	if e := b.s.Release(at); e != 5 {
		t.Errorf("Release of one that nobody holds: error %d", e)
	}
	b.hold(at)
	b.release(at)
	b.same("Release of a linked one")
	b.are(0, 1, 1, 1, 0, 0, 0, 0, 0, 0, 0, 0, 0, 0, 0, 0, 0)
	if e := b.s.Release(at); e != 5 {
		t.Errorf("Release of one that nobody holds: error %d", e)
	}
}

// TestNoItem (20.2): of each address at which none begins: also where bytes look like one.
func TestNoItem(t *testing.T) {
	b := made(t, 6, 2, 1)
	b.did(set("a", "v"), stored)
	// The further chunk's first four bytes are a place, so the rest of a header lies behind them.
	like := header(7, 0, 1, 3, "a", long(500))[4:]
	b.did(set("k", long(983)+like), stored)
	b.did(set("z", long(983)+header(7, 0, 1, 3, "z", long(500))[4:]), stored)
	b.hold(b.find("z", 1000))
	b.did(one(api.Delete, "z"), deleted)
	b.did(set("z", "free"), stored)
	b.did(set("w", header(7, 0, 1, 3, "w", "")), stored)
	b.did(one(api.Delete, "w"), deleted)
	b.are(2, Member)
	for at := range 6 * size {
		if b.w.at(at) != nil {
			continue
		}
		if h, r := b.s.Hold(at), b.s.Release(at); h != 3 || r != 3 {
			t.Fatalf("at %d, where no item begins: Hold: error %d, Release: error %d", at, h, r)
		}
	}
	for _, at := range farAways {
		if h, r := b.s.Hold(at), b.s.Release(at); h != 3 || r != 3 {
			t.Errorf("at %d, where nothing is: Hold: error %d, Release: error %d", at, h, r)
		}
	}
	b.same("Holds where no item begins")
}

// TestJuggle (20.2): of a class, as its segments have it; of none: false.
func TestJuggle(t *testing.T) {
	b := filled(t, 2, 5)
	b.did(set("big", long(200)), stored)
	b.did(api.Command{Kind: api.Get, Keys: []string{"b", "b"}}, values)
	for _, class := range wrongClasses {
		if b.s.Juggle(class) {
			t.Errorf("Juggle of class %d", class)
		}
	}
	if b.s.Juggle(3) {
		t.Errorf("Juggle of a class without items")
	}
	b.same("Juggle of nothing")
	for range 6 {
		b.juggle(0)
		b.same("Juggle")
	}
	if hot, warm, cold := b.s.Segments(0); hot != 1 || warm != 1 || cold != 3 {
		t.Errorf("behind all: %d %d %d", hot, warm, cold)
	}
	if hot, warm, cold := b.s.Segments(2); hot != 1 || warm != 0 || cold != 0 {
		t.Errorf("of another class: %d %d %d", hot, warm, cold)
	}
}

// TestGrow (20.2): with more than 3 items for each 2 buckets, and no sooner; then a step each time.
func TestGrow(t *testing.T) {
	b := made(t, 32, 2, 1)
	n := 0
	fill := func(to int) {
		for ; n < to; n++ {
			b.do(set("k"+long(n)[max(0, n-10):]+string(rune('a'+n%26))+string(rune('a'+n/26)), "v"), 1000)
		}
	}
	for _, buckets := range []int{8, 16, 32} {
		fill(buckets * 3 / 2)
		if len(b.s.Keys()) != buckets*3/2 || b.s.Grow() {
			t.Fatalf("Grow with just 3 items for each 2 of %d buckets", buckets)
		}
		fill(buckets*3/2 + 1)
		for i := range buckets + 1 {
			if !b.s.Grow() {
				t.Fatalf("Grow, %d times, of %d buckets: false", i+1, buckets)
			}
			b.sameEntries("Grow")
		}
		if b.s.Grow() {
			t.Fatalf("Grow of %d buckets, when it has grown", 2*buckets)
		}
		for range buckets + 2 {
			b.w.grow()
		}
	}
	fill(300)
	if b.s.Grow() {
		t.Errorf("Grow of 64 buckets")
	}
	b.same("Grow")
}

// TestGrowOn (20.2): a table that grows goes on, whatever items are left.
func TestGrowOn(t *testing.T) {
	b := filled(t, 1, 13)
	b.grow()
	b.did(api.Command{Kind: api.Flush}, done)
	for i := range 8 {
		if !b.s.Grow() {
			t.Errorf("Grow, step %d: false", i)
		}
	}
	if b.s.Grow() {
		t.Errorf("Grow of a table without items")
	}
}

// TestEntry (20.3): what is kept for a key, also if it is gone.
func TestEntry(t *testing.T) {
	b := made(t, 4, 2, 1)
	c := api.Command{Kind: api.Set, Keys: []string{"k"}, Value: long(2000), Flags: math.MaxUint32, Exp: math.MaxInt64}
	b.did(c, stored)
	if x, ok := b.s.Entry("k"); !ok || x != (api.Entry{Value: long(2000), Flags: math.MaxUint32, Exp: math.MaxUint32, Cas: 1}) {
		t.Errorf("the entry: flags %d, exp %d, cas %d, %v", x.Flags, x.Exp, x.Cas, ok)
	}
	c = api.Command{Kind: api.Set, Keys: []string{"gone"}, Exp: -1}
	b.did(c, stored)
	for range 2 {
		if x, ok := b.s.Entry("gone"); !ok || x != (api.Entry{Exp: 1, Cas: 2}) {
			t.Errorf("the entry of one that is gone: %+v, %v", x, ok)
		}
	}
	b.find("gone", 1000)
	if x, ok := b.s.Entry("gone"); ok || x != (api.Entry{}) {
		t.Errorf("no entry: %+v, %v", x, ok)
	}
}

// TestKeys (20.3): all, by texts, rising; also those that are gone; what is loose has none.
func TestKeys(t *testing.T) {
	b := made(t, 4, 2, 1)
	for _, key := range []string{"b", "a", "B", "ab", "~", "!", "10", "9", "aa"} {
		c := set(key, "v")
		c.Exp = -1
		b.did(c, stored)
	}
	b.hold(b.find("9", 0))
	b.did(api.Command{Kind: api.Delete, Keys: []string{"9"}}, notFound)
	if keys := b.s.Keys(); !slices.Equal(keys, []string{"!", "10", "B", "a", "aa", "ab", "b", "~"}) {
		t.Errorf("keys: %q", keys)
	}
}

// TestChunks (20.3): what each chunk is; a page that is free, and none.
func TestChunks(t *testing.T) {
	b := made(t, 5, 2, 1)
	b.did(set("a", long(300)), stored)
	b.did(set("b", long(300)), stored)
	b.did(set("c", long(1500)), stored)
	b.hold(b.find("b", 1000))
	b.did(one(api.Delete, "b"), deleted)
	b.vacate(b.find("a", 1000))
	b.same("Vacate")
	b.are(0, Taken, Loose)
	b.are(1, Linked)
	b.are(2, Member)
	b.are(3, Linked, Free)
	if list, e := b.s.Chunks(4); list != nil || e != 5 {
		t.Errorf("Chunks of a free page: %v, error %d", list, e)
	}
	for _, page := range append(wrongPages, 5) {
		if list, e := b.s.Chunks(page); list != nil || e != 1 {
			t.Errorf("Chunks(%d): %v, error %d", page, list, e)
		}
	}
}

// TestChunksThatLie (20.3): a chunk that is not just one thing is told. No call makes such a store.
func TestChunksThatLie(t *testing.T) {
	lies := map[string]func(s *Store, at int){
		"free and taken":   func(s *Store, at int) { s.taken[at+64] = struct{}{} },
		"linked and taken": func(s *Store, at int) { s.taken[at] = struct{}{} },
		"member and taken": func(s *Store, at int) { s.taken[2048] = struct{}{} },
		"nothing":          func(s *Store, at int) { s.slabs.Alloc(0) },
		"linked and free":  func(s *Store, at int) { s.slabs.Free(at) },
		"linked and loose": func(s *Store, at int) { s.loose[at] = struct{}{} },
	}
	for name, lie := range lies {
		b := made(t, 4, 2, 1)
		b.did(set("a", "v"), stored)
		b.did(set("big", long(1500)), stored)
		lie(b.s, 0)
		page := 0
		if name == "member and taken" {
			page = 2
		}
		if list, e := b.s.Chunks(page); len(list) != 0 || e != 5 {
			t.Errorf("%s: %v, error %d", name, list, e)
		}
		if _, e := b.s.Chunks(1); e != 0 {
			t.Errorf("%s: of another page: error %d", name, e)
		}
	}
}

// TestOwnerAndPages (20.3): whose each page is, how many each class has, and how many are free.
func TestOwnerAndPages(t *testing.T) {
	b := made(t, 5, 2, 1)
	if pages, free := b.s.Pages(); !slices.Equal(pages, []int{0, 0, 0, 0, 0}) || free != 5 {
		t.Errorf("Pages of a new store: %v, %d", pages, free)
	}
	b.did(set("a", long(300)), stored)
	b.did(set("b", "v"), stored)
	b.did(set("c", long(1500)), stored)
	if pages, free := b.s.Pages(); !slices.Equal(pages, []int{1, 0, 0, 1, 2}) || free != 1 {
		t.Errorf("Pages: %v, %d", pages, free)
	}
	for page, class := range []int{3, 0, 4, 4, -1} {
		if got, e := b.s.Owner(page); got != class || e != 0 {
			t.Errorf("Owner(%d): %d, error %d, not %d", page, got, e, class)
		}
	}
	for _, page := range append(wrongPages, 5) {
		if got, e := b.s.Owner(page); got != 0 || e != 1 {
			t.Errorf("Owner(%d): %d, error %d", page, got, e)
		}
	}
}

// TestSizes (20.3): the table of classes.
func TestSizes(t *testing.T) {
	for _, x := range []struct {
		over, under int
		sizes       []int
	}{
		{3, 2, []int{64, 96, 144, 216, 328, 496, 1024}},
		{2, 1, []int{64, 128, 256, 512, 1024}},
		{4, 1, []int{64, 256, 1024}},
		{101, 100, []int{64, 72, 80, 88, 96, 104, 112, 1024}},
	} {
		s, _ := New(1, x.over, x.under)
		if sizes := s.Sizes(); !slices.Equal(sizes, x.sizes) {
			t.Errorf("Sizes of %d / %d: %v", x.over, x.under, sizes)
		}
	}
}

// TestNewMemory (20.1, 20.3, 20.6): what is handed out shares nothing with what is kept, nor with another answer; reading changes nothing.
func TestNewMemory(t *testing.T) {
	b := filled(t, 4, 20)
	b.did(set("big", long(1500)), stored)
	for range 2 {
		clear(b.s.Sizes())
		clear(b.s.Keys())
		chunks, _ := b.s.Chunks(0)
		clear(chunks)
		counts, _ := b.s.Pages()
		clear(counts)
		pages, roots, _ := b.s.Raw()
		clear(pages)
		clear(roots)
		r, _ := b.do(api.Command{Kind: api.Get, Keys: letters(3)}, 1000)
		clear(r.Hits)
		b.same("answers that were written over")
	}
	c := api.Command{Kind: api.Get, Keys: append(make([]string, 0, 8), "a", "b")}
	b.did(c, values)
	if rest := c.Keys[2:8]; strings.Join(rest, "") != "" {
		t.Errorf("in the spare room behind the keys lies %q", rest)
	}
	key := []string{"mine"}
	b.do(api.Command{Kind: api.Set, Keys: key, Value: "v"}, 1000)
	key[0] = "yours"
	b.same("a list of keys that was written over")
}
