package store

import (
	"fmt"
	"math"
	"reflect"
	"slices"
	"strings"
	"testing"

	"tallboy/api"
	"tallboy/verb"
)

// noSeconds are numbers that are none; the lowest 31 or 32 bits of many of them are one.
var noSeconds = []int64{0, -1, -1000, math.MinInt32, -1 << 32, -1<<32 + 1000, math.MinInt64, math.MinInt64 + 1000,
	1 << 31, 1<<31 + 1000, 1<<32 - 1, 1 << 32, 1<<32 + 1000, 1 << 62, math.MaxInt64 - 1, math.MaxInt64}

// long is a value of so many bytes.
func long(n int) string { return strings.Repeat("0123456789", n/10+1)[:n] }

// one is the command of a kind for a key.
func one(kind int, key string) api.Command { return api.Command{Kind: kind, Keys: []string{key}} }

// set is a Set.
func set(key, value string) api.Command {
	return api.Command{Kind: api.Set, Keys: []string{key}, Value: value}
}

// did does a command at second 1000, and holds its code and its drops against those told.
func (b *both) did(c api.Command, code int, drops ...Drop) verb.Result {
	b.t.Helper()
	r, got := b.do(c, 1000)
	if r.Code != code || !slices.Equal(got, drops) {
		b.t.Fatalf("Do(%d %q): code %d, drops %v, not %d, %v", c.Kind, c.Keys, r.Code, got, code, drops)
	}
	b.same(fmt.Sprintf("Do(%d %q)", c.Kind, c.Keys))
	return r
}

// lies fails, if a key's item does not begin at an address.
func (b *both) lies(key string, at int) {
	b.t.Helper()
	if got := b.find(key, 1000); got != at {
		b.t.Fatalf("%q lies at %d, not at %d", key, got, at)
	}
}

// counted fails, if a class's counts are others.
func (b *both) counted(class int, c Count) {
	b.t.Helper()
	if got := b.s.Counts(class); got != c {
		b.t.Fatalf("Counts(%d): %+v, not %+v", class, got, c)
	}
}

// are fails, if a page's chunks are something else.
func (b *both) are(page int, list ...int) {
	b.t.Helper()
	if got, e := b.s.Chunks(page); e != 0 || !slices.Equal(got, list) {
		b.t.Fatalf("Chunks(%d): %v, error %d, not %v", page, got, e, list)
	}
}

// bitsOf is the FBits of a key's item.
func (b *both) bitsOf(key string) int {
	b.t.Helper()
	pages, _, _ := b.s.Raw()
	at, ok := b.s.Find(key, 1)
	if !ok {
		b.t.Fatalf("%q is not there", key)
	}
	return int(memory{b.t, pages}.number(at+36, 1))
}

// letters are so many keys of one letter each, from a on.
func letters(n int) []string {
	var list []string
	for i := range n {
		list = append(list, string(rune('a'+i)))
	}
	return list
}

// filled is a store of pages whose sizes are 64 128 256 512 1024, with small items of some letters.
func filled(t *testing.T, pages, n int) *both {
	t.Helper()
	b := made(t, pages, 2, 1)
	for _, key := range letters(n) {
		b.do(set(key, "v"), 1000)
	}
	return b
}

// TestNew (20.1): how many pages there may be, and which factors; it has no items.
func TestNew(t *testing.T) {
	for pages := 1; pages <= 32; pages++ {
		for _, f := range [][2]int{{3, 2}, {2, 1}, {4, 1}, {101, 100}, {400, 100}, {2, 2 - 1}} {
			made(t, pages, f[0], f[1]).same("New")
		}
	}
	for _, pages := range []int{0, -1, 33, 64, 1024, far + 1, -far + 1, math.MaxInt, math.MinInt, math.MinInt + 1} {
		if s, e := New(pages, 3, 2); s != nil || e != 1 {
			t.Errorf("New(%d, 3, 2): %v, error %d", pages, s != nil, e)
		}
		if s, e := New(pages, 2, 2); s != nil || e != 1 {
			t.Errorf("New(%d, 2, 2): %v, error %d", pages, s != nil, e)
		}
	}
	for _, f := range [][2]int{{1, 1}, {2, 2}, {1, 2}, {5, 1}, {401, 100}, {102, 101}, {1, 0}, {0, 0}, {-3, -2}, {far + 3, 2}, {3, far + 2}, {math.MaxInt, math.MaxInt}, {math.MinInt, math.MinInt}} {
		if s, e := New(3, f[0], f[1]); s != nil || e != 1 {
			t.Errorf("New(3, %d, %d): %v, error %d", f[0], f[1], s != nil, e)
		}
	}
}

// TestNewByItself (20.1): what happens in one store does not in another one.
func TestNewByItself(t *testing.T) {
	first, other := filled(t, 2, 0), filled(t, 2, 0)
	first.did(set("a", "v"), stored)
	other.same("a Set in another store")
	other.did(set("a", long(1500)), stored)
	first.same("a Set in another store")
}

// TestDoRefuses (20.1): what is wrong with a command is told ahead of a wrong second; nothing is changed by either.
func TestDoRefuses(t *testing.T) {
	b := filled(t, 2, 3)
	c := set("b", "soon gone")
	c.Exp = 1
	b.do(c, 1000)
	b.same("the beginning")
	wrong := []struct {
		c api.Command
		e api.Errno
	}{
		{api.Command{}, 70}, {one(16, "a"), 70}, {one(-1, "a"), 70}, {one(far+1, "a"), 70},
		{api.Command{Kind: 1}, 6}, {api.Command{Kind: 5}, 6}, {one(5, "a b"), 6}, {one(1, ""), 6}, {one(11, strings.Repeat("k", 33)), 6},
		{api.Command{Kind: 15, Keys: []string{"a"}}, 6}, {api.Command{Kind: 1, Keys: letters(9)}, 6}, {api.Command{Kind: 5, Keys: letters(2)}, 6},
		{api.Command{Kind: 8, Keys: letters(1), Exp: 5}, 6}, {api.Command{Kind: 1, Keys: letters(1), Quiet: true}, 6}, {set("", long(2001)), 6},
		{set("a", long(2001)), 7}, {set("a", long(5000)), 7},
	}
	for _, x := range wrong {
		for _, now := range append([]int64{1000, 1001, 1, 1<<31 - 1}, noSeconds...) {
			r, drops, e := b.s.Do(x.c, now)
			if e != x.e || len(drops) != 0 || !reflect.DeepEqual(r, verb.Result{}) {
				t.Errorf("Do(%d %q, at %d): %+v, %v, error %d, not %d", x.c.Kind, x.c.Keys, now, r, drops, e, x.e)
			}
		}
		b.same("a wrong command")
	}
	for kind := 1; kind <= 15; kind++ {
		c := one(kind, "b")
		if kind == 15 {
			c.Keys = nil
		}
		for _, now := range noSeconds {
			if r, drops, e := b.s.Do(c, now); e != 1 || len(drops) != 0 || !reflect.DeepEqual(r, verb.Result{}) {
				t.Errorf("Do of kind %d at %d: %+v, %v, error %d", kind, now, r, drops, e)
			}
		}
		b.same("a wrong second")
	}
	b.counted(0, Count{})
	b.do(one(1, "b"), 1001)
	b.counted(0, Count{Expired: 1})
}

// TestDo (20.1): what comes of commands, one behind the other.
func TestDo(t *testing.T) {
	b := made(t, 4, 3, 2)
	full := api.Command{Kind: api.Set, Keys: []string{"a"}, Value: "10", Flags: 7, Exp: 50}
	b.did(full, stored)
	r := b.did(api.Command{Kind: api.Incr, Keys: []string{"a"}, Delta: 5}, number)
	if r.N != 15 {
		t.Errorf("10 and 5: %d", r.N)
	}
	r = b.did(api.Command{Kind: api.Gets, Keys: []string{"a", "nobody", "a"}}, values)
	if hit := (verb.Hit{Key: "a", Flags: 7, Value: "15", Cas: 2}); !slices.Equal(r.Hits, []verb.Hit{hit, hit}) {
		t.Errorf("Gets: %+v", r.Hits)
	}
	if r = b.did(api.Command{Kind: api.Decr, Keys: []string{"a"}, Delta: 100}, number); r.N != 0 {
		t.Errorf("15 less 100: %d", r.N)
	}
	if x, ok := b.s.Entry("a"); x != (api.Entry{Value: "0", Flags: 7, Exp: 1050, Cas: 3}) || !ok {
		t.Errorf("the entry: %+v, %v", x, ok)
	}
	b.did(api.Command{Kind: api.Append, Keys: []string{"a"}, Value: "x"}, stored)
	b.did(api.Command{Kind: api.Prepend, Keys: []string{"a"}, Value: "y"}, stored)
	b.did(api.Command{Kind: api.Incr, Keys: []string{"a"}, Delta: 5}, noNumber)
	if x, _ := b.s.Entry("a"); x != (api.Entry{Value: "y0x", Flags: 7, Exp: 1050, Cas: 5}) {
		t.Errorf("the entry: %+v", x)
	}
	b.did(one(api.Add, "a"), notStored)
	b.did(one(api.Replace, "nobody"), notStored)
	b.did(one(api.Append, "nobody"), notStored)
	b.did(one(api.Prepend, "nobody"), notStored)
	b.did(one(api.Cas, "nobody"), notFound)
	b.did(api.Command{Kind: api.Cas, Keys: []string{"a"}, Cas: 4}, exists)
	b.did(api.Command{Kind: api.Cas, Keys: []string{"a"}, Cas: 5, Value: "c", Flags: 1}, stored)
	b.did(api.Command{Kind: api.Touch, Keys: []string{"a"}, Exp: 3000000}, touched)
	if x, _ := b.s.Entry("a"); x != (api.Entry{Value: "c", Flags: 1, Exp: 3000000, Cas: 6}) {
		t.Errorf("the entry: %+v", x)
	}
	b.did(one(api.Touch, "nobody"), notFound)
	b.did(one(api.Delete, "nobody"), notFound)
	b.did(one(api.Incr, "nobody"), notFound)
	b.did(one(api.Decr, "nobody"), notFound)
	b.did(one(api.Add, "b"), stored)
	b.did(one(api.Replace, "b"), stored)
	b.did(api.Command{Kind: api.Append, Keys: []string{"a"}, Value: long(2000)}, tooLarge)
	b.did(api.Command{Kind: api.Append, Keys: []string{"a"}, Value: long(1999)}, stored)
	b.did(one(api.Delete, "a"), deleted)
	b.did(api.Command{Kind: api.Flush, Quiet: true}, done)
	if keys := b.s.Keys(); len(keys) != 0 {
		t.Errorf("keys behind a Flush: %q", keys)
	}
	b.did(set("a", "v"), stored)
	if x, _ := b.s.Entry("a"); x.Cas != 10 {
		t.Errorf("the tenth that was laid in has Cas %d", x.Cas)
	}
}

// TestGone (20.1): of each command an entry that is gone is none; it is unlinked, and counted, and no Drop.
func TestGone(t *testing.T) {
	codes := []int{0, values, values, values, values, stored, stored, notStored, notStored, notStored, notFound, notFound, notFound, notFound, notFound}
	for kind := 1; kind <= 14; kind++ {
		b := made(t, 2, 2, 1)
		c := set("a", "5")
		c.Exp = 5
		b.did(c, stored)
		r, drops := b.do(one(kind, "a"), 1005)
		if r.Code != codes[kind] || len(r.Hits) != 0 || len(drops) != 0 {
			t.Errorf("kind %d of an entry that is gone: %+v, %v", kind, r, drops)
		}
		b.same("a command of one that is gone")
		b.counted(0, Count{Expired: 1})
	}
}

// TestNotGone (20.1): a second ahead of its end it is there, for each command.
func TestNotGone(t *testing.T) {
	codes := []int{0, values, values, values, values, stored, notStored, stored, stored, stored, stored, deleted, number, number, touched}
	for kind := 1; kind <= 14; kind++ {
		b := made(t, 2, 2, 1)
		c := set("a", "5")
		c.Exp = 5
		b.did(c, stored)
		c = one(kind, "a")
		if kind == 10 {
			c.Cas = 1
		}
		if r, _ := b.do(c, 1004); r.Code != codes[kind] || kind <= 4 && len(r.Hits) != 1 {
			t.Errorf("kind %d of an entry that is not gone: %+v", kind, r)
		}
		b.same("a command of one that is not gone")
		b.counted(0, Count{})
	}
}

// TestGatEnds (20.1): a Gat lets each one end anew, also one that comes twice, and is gone then.
func TestGatEnds(t *testing.T) {
	for _, kind := range []int{api.Gat, api.Gats} {
		b := filled(t, 1, 3)
		c := api.Command{Kind: kind, Keys: []string{"b", "nobody", "a", "b"}, Exp: 30}
		if r := b.did(c, values); len(r.Hits) != 3 {
			t.Errorf("hits: %+v", r.Hits)
		}
		for key, end := range map[string]int64{"a": 1030, "b": 1030, "c": 0} {
			if x, _ := b.s.Entry(key); x.Exp != end {
				t.Errorf("%q ends at %d, not at %d", key, x.Exp, end)
			}
		}
		c.Exp = -1
		if r := b.did(c, values); len(r.Hits) != 2 || r.Hits[0].Key != "b" || r.Hits[1].Key != "a" {
			t.Errorf("hits of those that end at once: %+v", r.Hits)
		}
		b.counted(0, Count{Expired: 1})
		if x, ok := b.s.Entry("a"); !ok || x.Exp != 1 {
			t.Errorf("a, that is gone, and was not found: %+v, %v", x, ok)
		}
	}
}

// TestBumped (20.1): what was found, and told, or changed, is bumped; nothing else is.
func TestBumped(t *testing.T) {
	for kind := 1; kind <= 14; kind++ {
		b := made(t, 2, 2, 1)
		b.did(set("a", "5"), stored)
		bumps := kind <= 4 || kind == 14
		for _, bits := range []int{3, 7, 7} {
			c := one(kind, "a")
			if kind == 10 {
				c.Cas = 1 << 40
			}
			b.do(c, 1000)
			b.same("a command")
			if kind == 11 {
				break
			}
			if !bumps {
				bits = 1
			}
			if got := b.bitsOf("a"); got != bits {
				t.Errorf("FBits behind kind %d: %d, not %d", kind, got, bits)
			}
		}
	}
	b := filled(t, 2, 2)
	b.did(api.Command{Kind: api.Get, Keys: []string{"a", "a"}}, values)
	if b.bitsOf("a") != 7 || b.bitsOf("b") != 1 {
		t.Errorf("FBits of one that was told twice, and of none: %d, %d", b.bitsOf("a"), b.bitsOf("b"))
	}
	b.s.Find("b", 1000)
	b.s.Entry("b")
	b.hold(b.find("b", 1000))
	if b.bitsOf("b") != 1 {
		t.Errorf("FBits of one that no command told: %d", b.bitsOf("b"))
	}
}

// TestExample (20.1): the chapter's example: a 17th item in a page of 16 chunks.
func TestExample(t *testing.T) {
	b := made(t, 1, 3, 2)
	for _, key := range letters(16) {
		b.did(set(key, "v"), stored)
	}
	b.counted(0, Count{})
	b.did(set("q", "v"), stored, Drop{"a", 1})
	b.lies("q", 0)
	b.counted(0, Count{Evicted: 1})
}

// TestEvictedInOrder (20.1): for a value in three chunks three items go, the one that goes first at first.
func TestEvictedInOrder(t *testing.T) {
	b := made(t, 3, 2, 1)
	for _, key := range letters(3) {
		b.did(set(key, long(900)), stored)
	}
	b.did(one(api.Get, "a"), values)
	b.juggle(4)
	b.juggle(4)
	b.juggle(4)
	b.juggle(4)
	b.same("Juggle")
	key := strings.Repeat("K", 32)
	b.did(set(key, long(2000)), stored, Drop{"a", 1}, Drop{"b", 1}, Drop{"c", 1})
	b.counted(4, Count{Evicted: 3})
	b.are(0, Linked)
	b.are(1, Member)
	b.are(2, Member)
	b.did(set("d", long(900)), stored, Drop{key, 1})
	b.are(2, Linked)
	b.are(1, Free)
}

// TestNoVictim (20.1): where there is no victim, what was reserved is given back, the last one first.
func TestNoVictim(t *testing.T) {
	b := made(t, 3, 2, 1)
	b.did(set("s", "v"), stored)
	b.did(set(strings.Repeat("K", 32), long(2000)), noMemory)
	b.are(1, Free)
	b.are(2, Free)
	b.counted(4, Count{Failed: 1})
	b.counted(0, Count{})
	b.did(set("x", long(900)), stored)
	b.lies("x", 1024)
	b.did(set("y", long(900)), stored)
	b.lies("y", 2048)
}

// TestAllHeld (20.1): where the first five are held, none goes; what is held no longer does.
func TestAllHeld(t *testing.T) {
	b := filled(t, 1, 16)
	for _, key := range letters(5) {
		b.hold(b.find(key, 1000))
	}
	b.did(set("q", "v"), noMemory)
	b.did(one(api.Add, "r"), noMemory)
	b.counted(0, Count{Failed: 2})
	b.release(b.find("d", 1000))
	b.did(set("q", "v"), stored, Drop{"d", 1})
	b.did(set("r", "v"), stored, Drop{"f", 1})
}

// TestSetFails (20.1): a Set that fails takes its key's item away, and tells it; all other kinds leave it as it was.
func TestSetFails(t *testing.T) {
	for kind := 5; kind <= 13; kind++ {
		if kind == api.Add || kind == api.Delete {
			continue
		}
		b := made(t, 1, 2, 1)
		was := api.Command{Kind: api.Set, Keys: []string{"a"}, Value: "5" + strings.Repeat(" ", 10), Flags: 9, Exp: 77}
		if kind >= 12 {
			was.Value = "99999999999999999999"[:18]
		}
		b.did(was, stored)
		b.hold(b.find("a", 1000))
		for _, key := range letters(16)[1:] {
			b.did(set(key, "v"), stored)
			b.hold(b.find(key, 1000))
		}
		c := one(kind, "a")
		if kind == api.Cas {
			c.Cas = 1
		}
		if kind == api.Set {
			b.did(c, noMemory, Drop{"a", 3})
			b.are(0, 2, 1, 1, 1, 1, 1, 1, 1, 1, 1, 1, 1, 1, 1, 1, 1)
		} else {
			b.did(c, noMemory)
			if x, ok := b.s.Entry("a"); !ok || x != (api.Entry{Value: was.Value, Flags: 9, Exp: 1077, Cas: 1}) {
				t.Errorf("the entry behind kind %d: %+v, %v", kind, x, ok)
			}
		}
		b.counted(0, Count{Failed: 1})
		b.did(set("new", ""), noMemory)
		b.release(b.find("c", 1000))
		b.did(set("new", ""), stored, Drop{"c", 1})
		if x, _ := b.s.Entry("new"); x.Cas != 17 {
			t.Errorf("behind those that failed Cas is %d", x.Cas)
		}
	}
}

// TestBothDrops (20.1): a Set fails where an item was evicted ahead: both are told, that one first.
func TestBothDrops(t *testing.T) {
	b := made(t, 3, 2, 1)
	b.did(set("k", "v"), stored)
	b.did(set("m", long(100)), stored)
	b.did(set("a", long(900)), stored)
	b.did(set("k", long(1500)), noMemory, Drop{"a", 1}, Drop{"k", 3})
	b.counted(4, Count{Evicted: 1, Failed: 1})
	b.counted(0, Count{})
	if keys := b.s.Keys(); !slices.Equal(keys, []string{"m"}) {
		t.Errorf("keys: %q", keys)
	}
	b.did(set("a", long(900)), stored)
	b.did(set("n", long(1500)), noMemory, Drop{"a", 1})
	b.did(set("a", long(900)), stored)
	b.did(api.Command{Kind: api.Replace, Keys: []string{"m"}, Value: long(1500)}, noMemory, Drop{"a", 1})
	b.did(set("a", long(900)), stored)
	b.did(api.Command{Kind: api.Append, Keys: []string{"m"}, Value: long(1500)}, noMemory, Drop{"a", 1})
	b.counted(4, Count{Evicted: 4, Failed: 4})
}

// TestSuccessor (20.1): while its successor is laid in, a key's own item is held, however often others hold it.
func TestSuccessor(t *testing.T) {
	for _, holds := range []int{0, 1, 249, 250} {
		b := filled(t, 1, 16)
		at := b.find("a", 1000)
		for range holds {
			b.hold(at)
		}
		b.did(set("a", "w"), stored, Drop{"b", 1})
		b.lies("a", 64)
		if holds > 0 {
			b.are(0, 2, 1, 1, 1, 1, 1, 1, 1, 1, 1, 1, 1, 1, 1, 1, 1)
		} else {
			b.are(0, 0, 1, 1, 1, 1, 1, 1, 1, 1, 1, 1, 1, 1, 1, 1, 1)
		}
		for range holds {
			b.release(at)
		}
		b.same("Release")
		b.are(0, 0, 1, 1, 1, 1, 1, 1, 1, 1, 1, 1, 1, 1, 1, 1, 1)
	}
	b := made(t, 1, 2, 1)
	b.did(set("a", long(900)), stored)
	b.did(api.Command{Kind: api.Replace, Keys: []string{"a"}, Value: long(901)}, noMemory)
	b.did(set("a", long(900)), noMemory, Drop{"a", 3})
	b.did(set("a", long(900)), stored)
}

// TestNothingForNothing (20.1): where nothing is laid in, nothing is evicted for it.
func TestNothingForNothing(t *testing.T) {
	b := filled(t, 1, 16)
	for _, kind := range []int{api.Add, api.Cas} {
		b.did(one(kind, "a"), map[int]int{api.Add: notStored, api.Cas: exists}[kind])
	}
	for _, kind := range []int{api.Replace, api.Append, api.Prepend} {
		b.did(one(kind, "nobody"), notStored)
	}
	for _, kind := range []int{api.Cas, api.Delete, api.Incr, api.Decr, api.Touch} {
		b.did(one(kind, "nobody"), notFound)
	}
	b.did(one(api.Incr, "a"), noNumber)
	b.did(api.Command{Kind: api.Append, Keys: []string{"a"}, Value: long(2000)}, tooLarge)
	b.did(api.Command{Kind: api.Prepend, Keys: []string{"a"}, Value: long(2000)}, tooLarge)
	b.did(api.Command{Kind: api.Get, Keys: letters(8)}, values)
	b.counted(0, Count{})
}

// TestFlush (20.1): all are unlinked, in the order of keys: so their chunks are given back; also what is gone; what is held is loose.
func TestFlush(t *testing.T) {
	b := made(t, 2, 2, 1)
	for _, key := range []string{"c", "a", "d", "b"} {
		c := set(key, "v")
		if key == "d" {
			c.Exp = -1
		}
		b.did(c, stored)
	}
	at := b.find("b", 1000)
	b.hold(at)
	b.did(api.Command{Kind: api.Flush}, done)
	b.counted(0, Count{})
	b.are(0, 0, 0, 0, 2, 0, 0, 0, 0, 0, 0, 0, 0, 0, 0, 0, 0)
	b.did(set("x", "v"), stored)
	b.lies("x", 128)
	b.did(set("y", "v"), stored)
	b.lies("y", 0)
	b.did(set("z", "v"), stored)
	b.lies("z", 64)
}

// TestWhereItFits (20.4): with a free page for each chunk that a command takes nothing is dropped.
func TestWhereItFits(t *testing.T) {
	b := made(t, 32, 2, 1)
	for i, key := range letters(16) {
		n := []int{3, 60, 150, 300, 900, 1500, 2000}[i%7]
		_, free := b.s.Pages()
		if free < 3 {
			break
		}
		b.did(set(key, long(n)), stored)
		b.did(api.Command{Kind: api.Append, Keys: []string{key}}, stored)
	}
	for class := range b.s.Sizes() {
		b.counted(class, Count{})
	}
}

// TestFiveEvicted (20.1): no more than five items go. No call makes a store where five are not enough: in this one the last class's segments lie.
func TestFiveEvicted(t *testing.T) {
	s := filled(t, 1, 8).s
	for _, key := range letters(8) {
		at, _ := s.Find(key, 1000)
		s.lrus[0].Drop(at)
		s.lrus[4].Add(at)
	}
	r, drops, e := s.Do(set("big", long(900)), 1000)
	if r.Code != noMemory || e != 0 || len(drops) != 5 || s.Counts(4) != (Count{Evicted: 5, Failed: 1}) {
		t.Errorf("a Set for which no eviction makes room: %+v, %v, error %d, %+v", r, drops, e, s.Counts(4))
	}
}

// TestNames (20.1, 20.3, 20.5): the numbers that names stand for.
func TestNames(t *testing.T) {
	why := []int{Evicted, Moved, Failed}
	status := []int{Free, Linked, Loose, Member, Taken}
	what := []int{WasFree, Rescued, Dropped, Busy, WasDone}
	if !slices.Equal(why, []int{1, 2, 3}) || !slices.Equal(status, []int{0, 1, 2, 3, 4}) || !slices.Equal(what, []int{1, 2, 3, 4, 5}) {
		t.Errorf("names: %v, %v, %v", why, status, what)
	}
}
