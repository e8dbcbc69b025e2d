package store

import (
	"math"
	"slices"
	"strings"
	"testing"

	"tallboy/api"
)

// big is a key of 32 bytes; with a value of 2000 bytes its item takes three chunks.
var big = strings.Repeat("K", 32)

// went fails, if Vacate answers something else.
func (b *both) went(at, what int, key string) {
	b.t.Helper()
	got, gotKey, e := b.s.Vacate(at)
	b.w.vacate(at)
	if got != what || gotKey != key || e != 0 {
		b.t.Fatalf("Vacate(%d): %d, %q, error %d, not %d, %q", at, got, gotKey, e, what, key)
	}
	b.same("Vacate")
}

// refuses fails, if an error is another one, or if it changed something.
func (b *both) refuses(call string, got, want api.Errno) {
	b.t.Helper()
	if got != want {
		b.t.Fatalf("%s: error %d, not %d", call, got, want)
	}
	b.same(call)
}

// TestVacateNone (20.5): where no chunk begins, in each page, and outside.
func TestVacateNone(t *testing.T) {
	b := made(t, 4, 3, 2)
	b.did(set("a", "v"), stored)
	b.did(set("b", long(50)), stored)
	for at := -1; at <= 4*size; at++ {
		if b.w.class(at) >= 0 {
			continue
		}
		if what, key, e := b.s.Vacate(at); what != 0 || key != "" || e != 1 {
			t.Fatalf("Vacate(%d): %d, %q, error %d", at, what, key, e)
		}
	}
	for _, at := range farAways {
		if what, key, e := b.s.Vacate(at); what != 0 || key != "" || e != 1 {
			t.Errorf("Vacate(%d): %d, %q, error %d", at, what, key, e)
		}
	}
	b.same("Vacates of nothing")
}

// TestVacateFree (20.5): a free chunk is taken; it is done then, and nobody gets it.
func TestVacateFree(t *testing.T) {
	b := filled(t, 2, 2)
	b.went(128, WasFree, "")
	b.went(128, WasDone, "")
	b.went(960, WasFree, "")
	b.are(0, 1, 1, 4, 0, 0, 0, 0, 0, 0, 0, 0, 0, 0, 0, 0, 4)
	b.did(set("x", "v"), stored)
	b.lies("x", 192)
	if h, r := b.s.Hold(128), b.s.Release(128); h != 3 || r != 3 {
		t.Errorf("Hold and Release of a taken chunk: errors %d, %d", h, r)
	}
}

// TestVacateHeld (20.5): a chunk of an item that is held, linked or loose, its first one or a further one.
func TestVacateHeld(t *testing.T) {
	b := made(t, 8, 2, 1)
	b.did(set("a", "v"), stored)
	b.did(set("c", long(1500)), stored)
	b.hold(b.find("a", 1000))
	b.hold(b.find("c", 1000))
	for range 2 {
		b.went(0, Busy, "")
		b.went(1024, Busy, "")
		b.went(2048, Busy, "")
		b.did(api.Command{Kind: api.Flush}, done)
	}
	b.release(0)
	b.release(1024)
	b.went(0, WasFree, "")
	b.went(1024, WasFree, "")
	b.went(2048, WasFree, "")
}

// TestRescued (20.5): an item is laid in elsewhere, as it was, the youngest of Hot; nothing is counted.
func TestRescued(t *testing.T) {
	b := made(t, 2, 2, 1)
	b.did(api.Command{Kind: api.Set, Keys: []string{"a"}, Value: "value", Flags: math.MaxUint32, Exp: -1}, stored)
	for _, key := range letters(17)[1:] {
		b.did(set(key, "v"), stored)
	}
	for range 9 {
		b.juggle(0)
	}
	if hot, _, cold := b.s.Segments(0); hot != 8 || cold != 9 {
		t.Fatalf("segments: %d, %d", hot, cold)
	}
	b.went(0, Rescued, "")
	if x, ok := b.s.Entry("a"); !ok || x != (api.Entry{Value: "value", Flags: math.MaxUint32, Exp: 1, Cas: 1}) {
		t.Errorf("what was rescued: %+v, %v", x, ok)
	}
	if hot, _, cold := b.s.Segments(0); hot != 9 || cold != 8 {
		t.Errorf("segments: %d, %d", hot, cold)
	}
	b.are(0, 4, 1, 1, 1, 1, 1, 1, 1, 1, 1, 1, 1, 1, 1, 1, 1)
	b.are(1, 1, 1, 0, 0, 0, 0, 0, 0, 0, 0, 0, 0, 0, 0, 0, 0)
	b.counted(0, Count{})
	b.did(one(api.Get, "b"), values)
	b.did(one(api.Get, "b"), values)
	b.went(64, Rescued, "")
	if b.bitsOf("b") != 1 {
		t.Errorf("FBits of one that was rescued: %d", b.bitsOf("b"))
	}
	b.lies("b", 1152)
	b.did(set("x", "v"), stored)
	if x, _ := b.s.Entry("x"); x.Cas != 18 {
		t.Errorf("Cas behind a rescue: %d", x.Cas)
	}
}

// TestRescuedMember (20.5): for a further chunk the whole item is laid in elsewhere; its other chunks are free.
func TestRescuedMember(t *testing.T) {
	for _, at := range []int{0, 1024, 2048} {
		b := made(t, 7, 2, 1)
		b.did(api.Command{Kind: api.Set, Keys: []string{big}, Value: long(2000), Flags: 3, Exp: 9}, stored)
		b.did(set("s", "v"), stored)
		b.went(at, Rescued, "")
		b.lies(big, 4096)
		if x, ok := b.s.Entry(big); !ok || x != (api.Entry{Value: long(2000), Flags: 3, Exp: 1009, Cas: 1}) {
			t.Errorf("what was rescued: flags %d, exp %d, cas %d, %v", x.Flags, x.Exp, x.Cas, ok)
		}
		for page, status := range []int{0, 0, 0, 1, 1, 3, 3} {
			if page == at/size {
				status = Taken
			}
			if list, e := b.s.Chunks(page); e != 0 || list[0] != status {
				t.Errorf("Chunks(%d): %v, error %d, not %d", page, list, e, status)
			}
		}
	}
}

// TestDropped (20.5): where there is no memory an item is dropped, though others could be evicted; Moved alone counts it.
func TestDropped(t *testing.T) {
	b := filled(t, 1, 16)
	b.went(64, Dropped, "b")
	b.counted(0, Count{Moved: 1})
	b.are(0, 1, 4, 1, 1, 1, 1, 1, 1, 1, 1, 1, 1, 1, 1, 1, 1)
	if _, ok := b.s.Entry("b"); ok {
		t.Errorf("what was dropped is there")
	}
	b.went(64, WasDone, "")
	b.went(0, Dropped, "a")
	b.counted(0, Count{Moved: 2})
}

// TestDroppedMember (20.5): what was reserved is given back, the last one first, and then the item's chunks are, but for the taken one.
func TestDroppedMember(t *testing.T) {
	b := made(t, 6, 2, 1)
	b.did(set(big, long(2000)), stored)
	b.did(set("s", "v"), stored)
	b.went(1024, Dropped, big)
	b.counted(4, Count{Moved: 1})
	b.counted(0, Count{})
	b.are(1, Taken)
	for i, at := range []int{2048, 0, 4096, 5120} {
		key := letters(4)[i]
		b.did(set(key, long(900)), stored)
		b.lies(key, at)
	}
}

// TestOwnPage (20.5): chunks of the very page that are handed out are taken, whether there are others or not.
func TestOwnPage(t *testing.T) {
	b := filled(t, 1, 3)
	b.went(64, Dropped, "b")
	b.are(0, 1, 4, 1, 4, 4, 4, 4, 4, 4, 4, 4, 4, 4, 4, 4, 4)
	b.counted(0, Count{Moved: 1})
	b.did(set("x", "v"), stored, Drop{"a", 1})

	b = filled(t, 2, 3)
	b.went(64, Rescued, "")
	b.lies("b", 1024)
	b.are(0, 1, 4, 1, 4, 4, 4, 4, 4, 4, 4, 4, 4, 4, 4, 4, 4)
	b.counted(0, Count{})

	b = filled(t, 2, 17)
	b.did(one(api.Delete, "c"), deleted)
	b.did(one(api.Delete, "q"), deleted)
	b.did(one(api.Delete, "e"), deleted)
	b.went(64, Rescued, "")
	b.lies("b", 1024)
	b.are(0, 1, 4, 0, 1, 4, 1, 1, 1, 1, 1, 1, 1, 1, 1, 1, 1)
}

// vacated is a store of two pages of class 0, of which all chunks of the first one are taken; q is at 1024.
func vacated(t *testing.T) *both {
	t.Helper()
	b := filled(t, 3, 17)
	for _, key := range letters(16) {
		b.did(one(api.Delete, key), deleted)
	}
	for at := 0; at < size; at += 64 {
		b.went(at, WasFree, "")
	}
	return b
}

// TestGive (20.5): a page whose chunks are all taken goes to a class, the first one of its list; none is taken then.
func TestGive(t *testing.T) {
	for class, n := range []int{16, 8, 4, 2, 1} {
		b := vacated(t)
		b.give(0, class)
		b.same("Give")
		b.are(0, slices.Repeat([]int{Free}, n)...)
		if owner, e := b.s.Owner(0); owner != class || e != 0 {
			t.Errorf("Owner: %d, error %d", owner, e)
		}
		b.went(0, WasFree, "")
		b.did(set("x", long([]int{1, 80, 200, 400, 900}[class])), stored)
		if at := b.find("x", 1000); n > 1 && at != b.s.Sizes()[class] || n == 1 && at != 2048 {
			t.Errorf("what is laid in next lies at %d", at)
		}
	}
}

// TestGiveRefuses (20.5): a page's error, a chunk that is not taken, no class, a free page with a lesser number, in this order; nothing is changed.
func TestGiveRefuses(t *testing.T) {
	b := vacated(t)
	for _, class := range []int{0, 4, -1, 5} {
		for _, page := range append(wrongPages, 3) {
			b.refuses("Give of no page", b.s.Give(page, class), 1)
		}
		b.refuses("Give of a free page", b.s.Give(2, class), 5)
		b.refuses("Give of a page whose chunks are not taken", b.s.Give(1, class), 8)
	}
	for _, class := range append(wrongClasses, 5) {
		b.refuses("Give to no class", b.s.Give(0, class), 1)
	}
	b.leave(0)
	for at := 0; at < size-64; at += 64 {
		b.went(at, WasFree, "")
	}
	for _, class := range []int{0, 4, -1, 5} {
		b.refuses("Give of a page of which one chunk is free", b.s.Give(0, class), 8)
	}
	b.did(set("x", "v"), stored)
	b.lies("x", 960)
	for _, class := range []int{0, 4, -1, 5} {
		b.refuses("Give of a page of which one chunk is an item's", b.s.Give(0, class), 8)
	}
}

// TestGiveBelowFree (20.5): while a page with a lesser number is free none goes; its chunks stay taken.
func TestGiveBelowFree(t *testing.T) {
	pages := []Page{{-1, ""}, {4, long(size)}, {0, long(size)}}
	s, n, e := Recover(pages, nil, 2, 1, 0)
	w, _, _ := wantRecover(t, pages, nil, 2, 1, 0)
	if n != 0 || e != 0 {
		t.Fatalf("Recover: %d, error %d", n, e)
	}
	b := &both{t: t, s: s, w: w}
	b.went(1024, WasFree, "")
	for class := range 5 {
		b.refuses("Give of a page above a free one", b.s.Give(1, class), 5)
	}
	for _, class := range append(wrongClasses, 5) {
		b.refuses("Give to no class of a page above a free one", b.s.Give(1, class), 1)
	}
	b.are(1, Taken)
	b.leave(1)
	b.same("Leave")
	b.are(1, Free)
}

// TestLeave (20.5): a page's taken chunks are given back, rising, so that the last one is the first one of the list; no others.
func TestLeave(t *testing.T) {
	b := filled(t, 3, 18)
	b.did(one(api.Delete, "c"), deleted)
	b.did(one(api.Delete, "e"), deleted)
	b.went(128, WasFree, "")
	b.went(1152, WasFree, "")
	b.went(0, Rescued, "")
	b.are(0, 4, 1, 4, 1, 4, 1, 1, 1, 1, 1, 1, 1, 1, 1, 1, 1)
	b.leave(0)
	b.same("Leave")
	b.are(0, 0, 1, 0, 1, 0, 1, 1, 1, 1, 1, 1, 1, 1, 1, 1, 1)
	if list, _ := b.s.Chunks(1); list[2] != Taken {
		t.Errorf("another page's taken chunk: %v", list)
	}
	for i, at := range []int{256, 128, 0, 1280} {
		key := "x" + letters(4)[i]
		b.did(set(key, "v"), stored)
		b.lies(key, at)
	}
	b.leave(0)
	b.same("Leave of a page of which nothing is taken")
	for _, page := range append(wrongPages, 3) {
		b.refuses("Leave of no page", b.s.Leave(page), 1)
	}
	b.refuses("Leave of a free page", b.s.Leave(2), 5)
}

// TestMoveWhole (20.4, 20.5): a page goes chunk by chunk to another class, while others do things; what is not told as dropped is as it was.
func TestMoveWhole(t *testing.T) {
	b := filled(t, 3, 30)
	before := map[string]api.Entry{}
	for _, key := range b.s.Keys() {
		before[key], _ = b.s.Entry(key)
	}
	for at := 0; at < size; at += 64 {
		what, key, e := b.s.Vacate(at)
		b.w.vacate(at)
		if e != 0 || what != Rescued && what != Dropped {
			t.Fatalf("Vacate(%d): %d, error %d", at, what, e)
		}
		if what == Dropped {
			delete(before, key)
		}
		b.same("Vacate")
	}
	b.give(0, 4)
	b.same("Give")
	if keys := b.s.Keys(); len(keys) != 30 {
		t.Errorf("%d keys are left, though a page was free", len(keys))
	}
	for key, x := range before {
		if got, ok := b.s.Entry(key); !ok || got != x {
			t.Errorf("%q: %+v, %v, not %+v", key, got, ok, x)
		}
	}
	b.did(set("x", long(900)), stored)
	b.lies("x", 0)
}
