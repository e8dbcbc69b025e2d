package model

import (
	"fmt"
	"math"
	"math/big"
	"slices"
	"strconv"
	"strings"
	"testing"

	"tallboy/api"
	"tallboy/verb"
)

// The last second that there is, and thirty days.
const (
	lastSecond = 2147483647
	month      = 2592000
)

// always is ahead of each end: at it no entry is gone, and all that are kept are told.
const always = math.MinInt64

// The codes of results, by their numbers.
const (
	values    = 1
	stored    = 2
	notStored = 3
	exists    = 4
	notFound  = 5
	deleted   = 6
	number    = 7
	noNumber  = 8
	touched   = 9
	done      = 10
	noMemory  = 11
	tooLarge  = 12
)

// noSeconds are numbers that are none; the lowest 31 or 32 bits of many of them are one.
var noSeconds = []int64{0, -1, -2, -1000, math.MinInt32, -1 << 32, -1<<32 + 1, -1<<32 + 1000, math.MinInt64, math.MinInt64 + 1, math.MinInt64 + 1000,
	1 << 31, 1<<31 + 1, 1<<31 + 1000, 1<<32 - 1, 1 << 32, 1<<32 + 1, 1<<32 + 1000, 1 << 62, 1<<62 + 1000, math.MaxInt64 - 1, math.MaxInt64}

// record is a key's entry by the document's words.
type record struct {
	key, value string
	flags      uint32
	ends       int64
	cas        uint64
}

// book is a model by the document's words: a list of entries without order.
type book struct {
	list []record
	laid uint64
}

// wantEnds is clock.Ends of a second that is one, by the document's words.
func wantEnds(now, exp int64) int64 {
	switch {
	case exp == 0:
		return 0
	case exp < 0:
		return 1
	case exp <= month:
		return now + exp
	}
	return min(exp, 1<<32-1)
}

// wantNumber is digits.Parse by the document's words, in big numbers.
func wantNumber(s string) (*big.Int, bool) {
	if s == "" || len(s) > 20 || strings.Trim(s, "0123456789") != "" {
		return nil, false
	}
	v, _ := new(big.Int).SetString(s, 10)
	return v, v.IsUint64()
}

// place is where in the list a key's entry stands, gone or not; -1: it has none.
func (b *book) place(key string) int {
	return slices.IndexFunc(b.list, func(r record) bool { return r.key == key })
}

// find is a key's entry, if it has one that is not gone.
func (b *book) find(key string, now int64) *record {
	i := b.place(key)
	if i < 0 || b.list[i].ends != 0 && b.list[i].ends <= now {
		return nil
	}
	return &b.list[i]
}

// take takes a key's entry away, gone or not.
func (b *book) take(key string) bool {
	i := b.place(key)
	if i >= 0 {
		b.list = slices.Delete(b.list, i, i+1)
	}
	return i >= 0
}

// lay lays in, in place of what the key had.
func (b *book) lay(key, value string, flags uint32, ends int64) {
	b.take(key)
	b.laid++
	b.list = append(b.list, record{key, value, flags, ends, b.laid})
}

// do is Do by the document's words.
func (b *book) do(c api.Command, now int64, failed bool) (verb.Result, api.Errno) {
	if e := verb.Check(c); e != 0 {
		return verb.Result{}, e
	}
	if now < 1 || now > lastSecond {
		return verb.Result{}, 1
	}
	if c.Kind <= 4 {
		return b.read(c, now), 0
	}
	if c.Kind == 15 {
		b.list = nil
		return verb.Result{Code: done}, 0
	}
	k := c.Keys[0]
	x := b.find(k, now)
	switch c.Kind {
	case 5:
		return verb.Result{Code: b.set(c, x, now, failed)}, 0
	case 6:
		if x != nil {
			return verb.Result{Code: notStored}, 0
		}
		return verb.Result{Code: b.set(c, x, now, failed)}, 0
	case 7:
		return verb.Result{Code: b.replace(c, x, now, failed)}, 0
	case 8:
		return verb.Result{Code: b.join(x, func() string { return x.value + c.Value }, failed)}, 0
	case 9:
		return verb.Result{Code: b.join(x, func() string { return c.Value + x.value }, failed)}, 0
	case 10:
		switch {
		case x == nil:
			return verb.Result{Code: notFound}, 0
		case x.cas != c.Cas:
			return verb.Result{Code: exists}, 0
		}
		return verb.Result{Code: b.replace(c, x, now, failed)}, 0
	case 12, 13:
		return b.count(c, x, failed), 0
	}
	if x == nil {
		return verb.Result{Code: notFound}, 0
	}
	if c.Kind == 11 {
		b.take(k)
		return verb.Result{Code: deleted}, 0
	}
	x.ends = wantEnds(now, c.Exp)
	return verb.Result{Code: touched}, 0
}

// read is what comes of a Get, a Gets, a Gat or a Gats.
func (b *book) read(c api.Command, now int64) verb.Result {
	r := verb.Result{Code: values}
	for _, key := range c.Keys {
		if x := b.find(key, now); x != nil {
			r.Hits = append(r.Hits, verb.Hit{Key: key, Flags: x.flags, Value: x.value, Cas: x.cas})
			if c.Kind >= 3 {
				x.ends = wantEnds(now, c.Exp)
			}
		}
	}
	return r
}

// set is what comes of a Set.
func (b *book) set(c api.Command, x *record, now int64, failed bool) int {
	if failed {
		if x != nil {
			b.take(x.key)
		}
		return noMemory
	}
	b.lay(c.Keys[0], c.Value, c.Flags, wantEnds(now, c.Exp))
	return stored
}

// replace is what comes of a Replace.
func (b *book) replace(c api.Command, x *record, now int64, failed bool) int {
	if x == nil {
		return notStored
	}
	if failed {
		return noMemory
	}
	return b.set(c, x, now, failed)
}

// join is what comes of an Append or a Prepend.
func (b *book) join(x *record, both func() string, failed bool) int {
	if x == nil {
		return notStored
	}
	value := both()
	if len(value) > 2000 {
		return tooLarge
	}
	if failed {
		return noMemory
	}
	b.lay(x.key, value, x.flags, x.ends)
	return stored
}

// count is what comes of an Incr or a Decr.
func (b *book) count(c api.Command, x *record, failed bool) verb.Result {
	if x == nil {
		return verb.Result{Code: notFound}
	}
	v, ok := wantNumber(x.value)
	if !ok {
		return verb.Result{Code: noNumber}
	}
	if failed {
		return verb.Result{Code: noMemory}
	}
	d := new(big.Int).SetUint64(c.Delta)
	if c.Kind == 12 {
		v.Add(v, d)
		v.Mod(v, new(big.Int).Lsh(big.NewInt(1), 64))
	} else if v.Sub(v, d); v.Sign() < 0 {
		v.SetInt64(0)
	}
	b.lay(x.key, v.String(), x.flags, x.ends)
	return verb.Result{Code: number, N: v.Uint64()}
}

// keys is Keys by the document's words.
func (b *book) keys(now int64) []string {
	var list []string
	for _, r := range b.list {
		if b.find(r.key, now) != nil {
			list = append(list, r.key)
		}
	}
	slices.Sort(list)
	return list
}

// copied is a book by itself.
func (b *book) copied() *book { return &book{slices.Clone(b.list), b.laid} }

// pair is a model, and what it must be.
type pair struct {
	t *testing.T
	m *Model
	b *book
}

func begin(t *testing.T) *pair {
	t.Helper()
	p := &pair{t, New(), &book{}}
	p.whole()
	return p
}

// told is a command in few words, for a complaint.
func told(c api.Command) string {
	if len(c.Value) > 30 {
		c.Value = c.Value[:30] + ".."
	}
	return fmt.Sprintf("%s %+v", verb.Name(c.Kind), c)
}

// same tells whether two results are one.
func same(a, b verb.Result) bool {
	return a.Code == b.Code && a.N == b.N && slices.Equal(a.Hits, b.Hits)
}

// whole holds all that the model tells against what it must be, at seconds around each end.
func (p *pair) whole() {
	p.t.Helper()
	times := []int64{always, 0, 1, 1000, lastSecond, math.MaxInt64}
	for _, r := range p.b.list {
		times = append(times, r.ends-1, r.ends, r.ends+1)
	}
	slices.Sort(times)
	for _, now := range slices.Compact(times) {
		p.at(now)
	}
}

// at holds all that the model tells at a second against what it must be.
func (p *pair) at(now int64) {
	p.t.Helper()
	if got, want := p.m.Keys(now), p.b.keys(now); !slices.Equal(got, want) {
		p.t.Fatalf("Keys(%d): %q, not %q", now, got, want)
	}
	for _, r := range p.b.list {
		p.get(r.key, now)
	}
	for _, key := range []string{"a", "b", "none", "", "\x00"} {
		p.get(key, now)
	}
}

// get holds Get of a text against what it must be.
func (p *pair) get(key string, now int64) {
	p.t.Helper()
	var want api.Entry
	r := p.b.find(key, now)
	if r != nil {
		want = api.Entry{Value: r.value, Flags: r.flags, Exp: r.ends, Cas: r.cas}
	}
	if x, ok := p.m.Get(key, now); x != want || ok != (r != nil) {
		p.t.Fatalf("Get(%.40q, %d): %.200v, %t, not %.200v, %t", key, now, x, ok, want, r != nil)
	}
}

// do does a command, and holds all that comes of it against what must come.
func (p *pair) do(c api.Command, now int64, failed bool) (verb.Result, api.Errno) {
	p.t.Helper()
	keys := slices.Clone(c.Keys)
	want, wantE := p.b.do(c, now, failed)
	r, e := p.m.Do(c, now, failed)
	if !same(r, want) || e != wantE {
		p.t.Fatalf("%s at %d, failed %t: %.300v, error %d, not %.300v, error %d", told(c), now, failed, r, e, want, wantE)
	}
	if !slices.Equal(c.Keys, keys) {
		p.t.Fatalf("%s: its keys were %q", told(c), keys)
	}
	p.whole()
	return r, e
}

// is does a command at a second, and asks for its code.
func (p *pair) is(c api.Command, now int64, code int) verb.Result {
	p.t.Helper()
	return p.coded(c, now, false, code)
}

// fails does a command without memory at a second, and asks for its code.
func (p *pair) fails(c api.Command, now int64, code int) verb.Result {
	p.t.Helper()
	return p.coded(c, now, true, code)
}

func (p *pair) coded(c api.Command, now int64, failed bool, code int) verb.Result {
	p.t.Helper()
	r, e := p.do(c, now, failed)
	if e != api.OK || r.Code != code {
		p.t.Fatalf("%s at %d, failed %t: %.300v, error %d, not code %d", told(c), now, failed, r, e, code)
	}
	return r
}

// has asks what a key has, gone or not.
func (p *pair) has(key string, want api.Entry) {
	p.t.Helper()
	if x, ok := p.m.Get(key, always); !ok || x != want {
		p.t.Fatalf("%q has %.200v, %t, not %.200v", key, x, ok, want)
	}
}

// hasNot asks that a key has nothing, nothing that is gone either.
func (p *pair) hasNot(key string) {
	p.t.Helper()
	if x, ok := p.m.Get(key, always); ok || x != (api.Entry{}) {
		p.t.Fatalf("%q has %.200v, %t", key, x, ok)
	}
}

// drop drops a text, and asks whether it had an entry.
func (p *pair) drop(key string, want bool) {
	p.t.Helper()
	if w := p.b.take(key); w != want {
		p.t.Fatalf("the test is wrong: Drop(%.40q): %t", key, w)
	}
	if got := p.m.Drop(key); got != want {
		p.t.Fatalf("Drop(%.40q): %t", key, got)
	}
	p.whole()
}

// copied is a pair of copies.
func (p *pair) copied() *pair { return &pair{p.t, p.m.Copy(), p.b.copied()} }

// Commands in short.
func get(keys ...string) api.Command  { return api.Command{Kind: api.Get, Keys: keys} }
func gets(keys ...string) api.Command { return api.Command{Kind: api.Gets, Keys: keys} }
func gat(exp int64, keys ...string) api.Command {
	return api.Command{Kind: api.Gat, Keys: keys, Exp: exp}
}
func gats(exp int64, keys ...string) api.Command {
	return api.Command{Kind: api.Gats, Keys: keys, Exp: exp}
}
func lays(kind int, key, value string) api.Command {
	return api.Command{Kind: kind, Keys: []string{key}, Value: value}
}
func set(key, value string) api.Command { return lays(api.Set, key, value) }
func setTill(key, value string, flags uint32, exp int64) api.Command {
	return api.Command{Kind: api.Set, Keys: []string{key}, Value: value, Flags: flags, Exp: exp}
}
func cas(key, value string, n uint64) api.Command {
	return api.Command{Kind: api.Cas, Keys: []string{key}, Value: value, Cas: n}
}
func del(key string) api.Command { return api.Command{Kind: api.Delete, Keys: []string{key}} }
func incr(key string, delta uint64) api.Command {
	return api.Command{Kind: api.Incr, Keys: []string{key}, Delta: delta}
}
func decr(key string, delta uint64) api.Command {
	return api.Command{Kind: api.Decr, Keys: []string{key}, Delta: delta}
}
func touch(key string, exp int64) api.Command {
	return api.Command{Kind: api.Touch, Keys: []string{key}, Exp: exp}
}
func flush() api.Command { return api.Command{Kind: api.Flush} }

// eachKind is a right command of each kind for a key; a Cas has a number.
func eachKind(key string, n uint64) []api.Command {
	return []api.Command{get(key), gets(key), gat(5, key), gats(5, key), set(key, "1"), lays(api.Add, key, "2"), lays(api.Replace, key, "3"),
		lays(api.Append, key, "4"), lays(api.Prepend, key, "5"), cas(key, "6", n), del(key), incr(key, 7), decr(key, 8), touch(key, 5), flush()}
}

// Promise 16.1: the chapter's example.
func TestExample(t *testing.T) {
	p := begin(t)
	p.is(set("a", "10"), 1000, stored)
	if r := p.is(incr("a", 5), 1000, number); r.N != 15 {
		t.Errorf("Incr by 5: %d", r.N)
	}
	r := p.is(gets("a"), 1000, values)
	if !slices.Equal(r.Hits, []verb.Hit{{Key: "a", Value: "15", Cas: 2}}) {
		t.Errorf("Gets: %+v", r)
	}
	if r := p.is(decr("a", 100), 1000, number); r.N != 0 {
		t.Errorf("Decr by 100: %d", r.N)
	}
	p.is(lays(api.Append, "a", "x"), 1000, stored)
	p.is(incr("a", 1), 1000, noNumber)
	p.has("a", api.Entry{Value: "0x", Cas: 4})
}

// Promise 16.1: the codes of results are the ones that verb has.
func TestCodes(t *testing.T) {
	for i, code := range []int{verb.Values, verb.Stored, verb.NotStored, verb.Exists, verb.NotFound, verb.Deleted, verb.Number, verb.NoNumber,
		verb.Touched, verb.Done, verb.NoMemory, verb.TooLarge} {
		if code != i+1 {
			t.Errorf("code %d is %d", i+1, code)
		}
	}
}

// Promises 16.1 and 16.2: a model without entries.
func TestWithoutEntries(t *testing.T) {
	codes := []int{values, values, values, values, stored, stored, notStored, notStored, notStored, notFound, notFound, notFound, notFound, notFound, done}
	failed := []int{values, values, values, values, noMemory, noMemory, notStored, notStored, notStored, notFound, notFound, notFound, notFound, notFound, done}
	for i, c := range eachKind("a", 0) {
		p := begin(t)
		if r := p.is(c, 1000, codes[i]); len(r.Hits) != 0 || r.N != 0 {
			t.Errorf("%s: %+v", told(c), r)
		}
		p = begin(t)
		if r := p.fails(c, 1000, failed[i]); len(r.Hits) != 0 || r.N != 0 {
			t.Errorf("%s: %+v", told(c), r)
		}
		p.hasNot("a")
	}
	p := begin(t)
	for _, key := range []string{"a", "", "a b", strings.Repeat("k", 32), strings.Repeat("k", 33)} {
		p.drop(key, false)
		p.hasNot(key)
	}
	for _, now := range append([]int64{1, 1000, lastSecond}, noSeconds...) {
		if list := p.m.Keys(now); len(list) != 0 {
			t.Errorf("Keys(%d): %q", now, list)
		}
		if list := p.m.Copy().Keys(now); len(list) != 0 {
			t.Errorf("Keys(%d) of a copy: %q", now, list)
		}
	}
	if New() == New() {
		t.Error("two models are one")
	}
}

// with is a pair with the key a, that has an entry, b, whose entry is gone at 1000, and c, whose entry is not to be kept at all.
func with(t *testing.T) *pair {
	p := begin(t)
	p.is(setTill("a", "10", 5, 50), 1000, stored)
	p.is(setTill("b", "20", 6, 1), 999, stored)
	p.is(setTill("c", "30", 7, -1), 1000, stored)
	return p
}

// wrongCommands are commands that are wrong, each with its error.
func wrongCommands() map[api.Errno][]api.Command {
	long := strings.Repeat("v", 2001)
	return map[api.Errno][]api.Command{
		70: {{}, {Kind: 16}, {Kind: -1, Keys: []string{"a"}}, {Kind: 256 + 5, Keys: []string{"a"}, Value: "v"}, {Kind: 0, Keys: []string{"a"}, Value: long}, {Kind: 1<<32 + 15}},
		6: {get(), set("", "v"), set("a b", "v"), set("a\x00", "v"), set(strings.Repeat("k", 33), "v"), set("a b", long), {Kind: api.Set}, {Kind: api.Flush, Keys: []string{"a"}},
			get("a", ""), get("", "a"), get("a", "a", "a", "a", "a", "a", "a", "a", "a"), {Kind: api.Delete, Keys: []string{"a", "a"}}, {Kind: api.Delete, Keys: []string{"a"}, Exp: 5},
			{Kind: api.Get, Keys: []string{"a"}, Exp: 5}, {Kind: api.Gat, Keys: []string{"a"}, Quiet: true}, {Kind: api.Append, Keys: []string{"a"}, Exp: 5}, {Kind: api.Prepend, Keys: []string{"a"}, Flags: 5},
			{Kind: api.Incr, Keys: []string{"a"}, Value: "5"}, {Kind: api.Set, Keys: []string{"a"}, Cas: 1}, {Kind: api.Touch, Keys: []string{"a"}, Delta: 1}, {Kind: api.Flush, Exp: -1}},
		7: {set("a", long), lays(api.Add, "none", long), lays(api.Append, "a", long), cas("a", long, 1), lays(api.Replace, "b", long), lays(api.Prepend, "none", long)},
	}
}

// Promise 16.1: a command that is wrong is told, and changes nothing, at a second and at none, with memory and without.
func TestWrongCommands(t *testing.T) {
	for want, list := range wrongCommands() {
		for _, c := range list {
			p := with(t)
			for _, now := range append([]int64{1, 1000, 1004, lastSecond}, noSeconds...) {
				for _, failed := range []bool{false, true} {
					if r, e := p.do(c, now, failed); e != want || !same(r, verb.Result{}) {
						t.Errorf("%s at %d, failed %t: %+v, error %d, not %d", told(c), now, failed, r, e, want)
					}
				}
			}
			p.is(set("d", "v"), 1000, stored)
			p.has("d", api.Entry{Value: "v", Cas: 4})
		}
	}
}

// Promise 16.1: a second that is none is told, and changes nothing.
func TestNoSecond(t *testing.T) {
	p := with(t)
	for _, now := range noSeconds {
		for _, key := range []string{"a", "b", "none"} {
			for _, c := range append(eachKind(key, 1), set(key, strings.Repeat("v", 2000)), setTill(key, "v", 1, -1), touch(key, -1), gat(-1, key), gats(month+1, key)) {
				for _, failed := range []bool{false, true} {
					if r, e := p.do(c, now, failed); e != api.ErrRange || !same(r, verb.Result{}) {
						t.Fatalf("%s at %d, failed %t: %+v, error %d", told(c), now, failed, r, e)
					}
				}
			}
		}
	}
	p.is(set("d", "v"), 1000, stored)
	p.has("d", api.Entry{Value: "v", Cas: 4})
}

// Promise 16.1: the first second, and the last one.
func TestEndsOfSeconds(t *testing.T) {
	for _, now := range []int64{1, 2, lastSecond - 1, lastSecond} {
		p := begin(t)
		p.is(setTill("a", "10", 5, 1), now, stored)
		p.has("a", api.Entry{Value: "10", Flags: 5, Exp: now + 1, Cas: 1})
		p.is(setTill("b", "10", 5, month), now, stored)
		p.has("b", api.Entry{Value: "10", Flags: 5, Exp: now + month, Cas: 2})
		for _, c := range eachKind("a", 1) {
			if r, e := p.copied().do(c, now, false); e != api.OK || r.Code == notFound {
				t.Errorf("%s at %d: %+v, error %d", told(c), now, r, e)
			}
		}
	}
	p := begin(t)
	p.is(setTill("a", "10", 5, math.MaxInt64), lastSecond, stored)
	p.has("a", api.Entry{Value: "10", Flags: 5, Exp: 1<<32 - 1, Cas: 1})
	p.is(touch("a", math.MinInt64), lastSecond, touched)
	p.has("a", api.Entry{Value: "10", Flags: 5, Exp: 1, Cas: 1})
}

// Promise 16.1: each kind, of a key that has no entry, of one whose entry is gone, and of one that has one.
func TestEachKind(t *testing.T) {
	none := []int{values, values, values, values, stored, stored, notStored, notStored, notStored, notFound, notFound, notFound, notFound, notFound, done}
	one := []int{values, values, values, values, stored, notStored, stored, stored, stored, stored, deleted, number, number, touched, done}
	noneLays := []int{4, 5}
	oneLays := []int{4, 6, 7, 8, 9, 11, 12}
	// An entry laid in at 1000 for 5 seconds: ahead of its end it is there, at it and behind it it is gone.
	for _, now := range []int64{1, 999, 1000, 1004, 1005, 1006, lastSecond} {
		there := now < 1005
		for i := range eachKind("a", 1) {
			for _, failed := range []bool{false, true} {
				p := begin(t)
				p.is(setTill("a", "10", 9, 5), 1000, stored)
				c, free := eachKind("a", 1)[i], eachKind("none", 1)[i]
				code, lays := none[i], noneLays
				if there {
					code, lays = one[i], oneLays
				}
				if failed && slices.Contains(lays, i) {
					code = noMemory
				}
				p.copied().coded(c, now, failed, code)
				code = none[i]
				if failed && slices.Contains(noneLays, i) {
					code = noMemory
				}
				p.coded(free, now, failed, code)
			}
		}
	}
}

// Promise 16.1: what is told of a key that was found, and what it has behind each kind.
func TestWhatEachKindDoes(t *testing.T) {
	start := func() *pair {
		p := begin(t)
		p.is(set("z", "ahead"), 1000, stored)
		p.is(setTill("a", "10", 9, 100), 1000, stored)
		return p
	}
	kept := api.Entry{Value: "10", Flags: 9, Exp: 1100, Cas: 2}
	hit := verb.Hit{Key: "a", Flags: 9, Value: "10", Cas: 2}
	for _, c := range []struct {
		c    api.Command
		r    verb.Result
		want api.Entry
	}{
		{get("a"), verb.Result{Code: values, Hits: []verb.Hit{hit}}, kept},
		{gets("a"), verb.Result{Code: values, Hits: []verb.Hit{hit}}, kept},
		{gat(5, "a"), verb.Result{Code: values, Hits: []verb.Hit{hit}}, api.Entry{Value: "10", Flags: 9, Exp: 1055, Cas: 2}},
		{gats(5, "a"), verb.Result{Code: values, Hits: []verb.Hit{hit}}, api.Entry{Value: "10", Flags: 9, Exp: 1055, Cas: 2}},
		{set("a", "new"), verb.Result{Code: stored}, api.Entry{Value: "new", Cas: 3}},
		{setTill("a", "new", 4, 7), verb.Result{Code: stored}, api.Entry{Value: "new", Flags: 4, Exp: 1057, Cas: 3}},
		{lays(api.Add, "a", "new"), verb.Result{Code: notStored}, kept},
		{lays(api.Replace, "a", "new"), verb.Result{Code: stored}, api.Entry{Value: "new", Cas: 3}},
		{lays(api.Append, "a", "new"), verb.Result{Code: stored}, api.Entry{Value: "10new", Flags: 9, Exp: 1100, Cas: 3}},
		{lays(api.Prepend, "a", "new"), verb.Result{Code: stored}, api.Entry{Value: "new10", Flags: 9, Exp: 1100, Cas: 3}},
		{cas("a", "new", 2), verb.Result{Code: stored}, api.Entry{Value: "new", Cas: 3}},
		{cas("a", "new", 1), verb.Result{Code: exists}, kept},
		{incr("a", 5), verb.Result{Code: number, N: 15}, api.Entry{Value: "15", Flags: 9, Exp: 1100, Cas: 3}},
		{decr("a", 3), verb.Result{Code: number, N: 7}, api.Entry{Value: "7", Flags: 9, Exp: 1100, Cas: 3}},
		{touch("a", 5), verb.Result{Code: touched}, api.Entry{Value: "10", Flags: 9, Exp: 1055, Cas: 2}},
	} {
		p := start()
		if r := p.is(c.c, 1050, c.r.Code); !same(r, c.r) {
			t.Errorf("%s: %+v, not %+v", told(c.c), r, c.r)
		}
		p.has("a", c.want)
		p.has("z", api.Entry{Value: "ahead", Cas: 1})
	}
	p := start()
	p.is(del("a"), 1050, deleted)
	p.hasNot("a")
	p.has("z", api.Entry{Value: "ahead", Cas: 1})
}

// Promise 16.1: Replace and Cas with all fields, and Add of a key without an entry.
func TestFieldsOfWhatIsLaidIn(t *testing.T) {
	for _, kind := range []int{api.Set, api.Add, api.Replace, api.Cas} {
		p := begin(t)
		if kind != api.Add {
			p.is(setTill("a", "old", 1, 3), 1000, stored)
		}
		was := p.b.laid
		c := api.Command{Kind: kind, Keys: []string{"a"}, Value: "new", Flags: 1<<32 - 1, Exp: 100}
		if kind == api.Cas {
			c.Cas = was
		}
		p.is(c, 1002, stored)
		p.has("a", api.Entry{Value: "new", Flags: 1<<32 - 1, Exp: 1102, Cas: was + 1})
		c.Flags, c.Exp, c.Value = 0, 0, ""
		if kind == api.Cas {
			c.Cas = was + 1
		}
		if kind == api.Add {
			p.is(del("a"), 1002, deleted)
		}
		p.is(c, 1003, stored)
		p.has("a", api.Entry{Cas: was + 2})
	}
}

// Promise 16.1: without memory, where something would be laid in: a Set takes away what was there, all others leave it.
func TestFailed(t *testing.T) {
	for _, c := range []struct {
		c    api.Command
		code int
		left bool
	}{
		{set("a", "new"), noMemory, false},
		{setTill("a", "", 4, -1), noMemory, false},
		{lays(api.Add, "a", "new"), notStored, true},
		{lays(api.Replace, "a", "new"), noMemory, true},
		{cas("a", "new", 1), noMemory, true},
		{cas("a", "new", 2), exists, true},
		{cas("a", "new", 0), exists, true},
		{lays(api.Append, "a", "new"), noMemory, true},
		{lays(api.Append, "a", ""), noMemory, true},
		{lays(api.Append, "a", strings.Repeat("v", 1999)), tooLarge, true},
		{lays(api.Prepend, "a", "new"), noMemory, true},
		{lays(api.Prepend, "a", ""), noMemory, true},
		{lays(api.Prepend, "a", strings.Repeat("v", 1999)), tooLarge, true},
		{incr("a", 5), noMemory, true},
		{incr("a", 0), noMemory, true},
		{decr("a", 5), noMemory, true},
		{decr("a", 100), noMemory, true},
		{get("a"), values, true},
		{gets("a"), values, true},
		{del("a"), deleted, false},
		{flush(), done, false},
	} {
		p := begin(t)
		p.is(setTill("a", "10", 9, 100), 1000, stored)
		if r := p.fails(c.c, 1050, c.code); r.N != 0 {
			t.Errorf("%s: %+v", told(c.c), r)
		}
		if c.left {
			p.has("a", api.Entry{Value: "10", Flags: 9, Exp: 1100, Cas: 1})
		} else {
			p.hasNot("a")
		}
		p.is(set("b", "v"), 1050, stored) // the number was left as it was
		p.has("b", api.Entry{Value: "v", Cas: 2})
	}
	for _, c := range []api.Command{gat(5, "a"), gats(5, "a"), touch("a", 5)} {
		p := begin(t)
		p.is(setTill("a", "10", 9, 100), 1000, stored)
		p.do(c, 1050, true)
		p.has("a", api.Entry{Value: "10", Flags: 9, Exp: 1055, Cas: 1})
	}
}

// Promise 16.1: without memory, of a key without an entry, and of one whose entry is gone: nothing is changed, and what is gone is none.
func TestFailedWithoutEntry(t *testing.T) {
	codes := []int{values, values, values, values, noMemory, noMemory, notStored, notStored, notStored, notFound, notFound, notFound, notFound, notFound}
	for i, code := range codes {
		p := with(t)
		for _, key := range []string{"none", "b", "c"} {
			p.fails(eachKind(key, 2)[i], 1000, code)
		}
		p.hasNot("none")
		p.has("b", api.Entry{Value: "20", Flags: 6, Exp: 1000, Cas: 2})
		p.has("c", api.Entry{Value: "30", Flags: 7, Exp: 1, Cas: 3})
		p.drop("b", true)
	}
}

// Promise 16.1: of what is wrong in two ways the document names one first.
func TestWrongTwice(t *testing.T) {
	long := strings.Repeat("v", 2000)
	for _, c := range []struct {
		c    api.Command
		code int
	}{
		{incr("none", 1), notFound}, {incr("gone", 1), notFound}, {incr("text", 1), noNumber}, {decr("text", 0), noNumber}, {decr("gone", 5), notFound},
		{lays(api.Append, "none", long), notStored}, {lays(api.Append, "gone", long), notStored}, {lays(api.Append, "text", long), tooLarge}, {lays(api.Prepend, "text", long), tooLarge},
		{lays(api.Prepend, "gone", long), notStored},
		{cas("none", "v", 1), notFound}, {cas("gone", "v", 1), notFound}, {cas("gone", "v", 2), notFound}, {cas("text", "v", 9), exists}, {cas("text", "v", 1), noMemory},
		{lays(api.Replace, "none", long), notStored}, {lays(api.Replace, "gone", long), notStored}, {lays(api.Replace, "text", long), noMemory},
		{lays(api.Add, "text", long), notStored}, {lays(api.Add, "gone", long), noMemory},
		{touch("gone", -1), notFound}, {del("gone"), notFound}, {del("none"), notFound},
	} {
		p := begin(t)
		p.is(set("text", "x"), 1000, stored)
		p.is(setTill("gone", "x", 0, 5), 1000, stored)
		p.fails(c.c, 1005, c.code)
		p.has("text", api.Entry{Value: "x", Cas: 1})
		p.has("gone", api.Entry{Value: "x", Exp: 1005, Cas: 2})
	}
	p := begin(t)
	if _, e := p.do(set("a", long+"v"), 0, true); e != api.ErrLong {
		t.Errorf("a Value that is too long, at no second: error %d", e)
	}
	if _, e := p.do(get(), -1, true); e != api.ErrField {
		t.Errorf("no keys, at no second: error %d", e)
	}
	if _, e := p.do(api.Command{Keys: []string{"a"}}, 1<<31, true); e != api.ErrCommand {
		t.Errorf("no kind, at no second: error %d", e)
	}
	if _, e := p.do(incr("none", 1), 1<<31, true); e != api.ErrRange {
		t.Errorf("no second, and no entry: error %d", e)
	}
}

// ends are times for which something may be kept, and its end, laid in at 3000000.
var ends = []struct{ exp, end int64 }{{0, 0}, {-1, 1}, {-2, 1}, {-month, 1}, {math.MinInt32, 1}, {-1 << 32, 1}, {math.MinInt64, 1},
	{1, 3000001}, {5, 3000005}, {month - 1, 3000000 + month - 1}, {month, 3000000 + month}, {month + 1, month + 1}, {month + 2, month + 2},
	{2999999, 2999999}, {3000000, 3000000}, {3000001, 3000001}, {lastSecond, lastSecond}, {1 << 31, 1 << 31}, {1<<31 + 5, 1<<31 + 5},
	{1<<32 - 2, 1<<32 - 2}, {1<<32 - 1, 1<<32 - 1}, {1 << 32, 1<<32 - 1}, {1<<32 + 5, 1<<32 - 1}, {1 << 40, 1<<32 - 1}, {math.MaxInt64, 1<<32 - 1}}

// Promise 16.1: each Exp, at each kind that has one.
func TestExp(t *testing.T) {
	const now = 3000000
	for _, x := range ends {
		for _, kind := range []int{api.Gat, api.Gats, api.Set, api.Add, api.Replace, api.Cas, api.Touch} {
			p := begin(t)
			if kind != api.Add {
				p.is(setTill("a", "10", 9, 77), now, stored)
			}
			c := api.Command{Kind: kind, Keys: []string{"a"}, Exp: x.exp}
			want := api.Entry{Value: "10", Flags: 9, Exp: x.end, Cas: 1}
			code := stored
			switch kind {
			case api.Gat, api.Gats:
				code = values
			case api.Touch:
				code = touched
			default:
				c.Value, c.Flags = "new", 3
				want = api.Entry{Value: "new", Flags: 3, Exp: x.end, Cas: p.b.laid + 1}
			}
			if kind == api.Cas {
				c.Cas = 1
			}
			r := p.is(c, now, code)
			if code == values && !slices.Equal(r.Hits, []verb.Hit{{Key: "a", Flags: 9, Value: "10", Cas: 1}}) {
				t.Errorf("%s: %+v", told(c), r)
			}
			p.has("a", want)
			hits := 1
			if x.end != 0 && x.end <= now {
				hits = 0
			}
			if r := p.is(get("a"), now, values); len(r.Hits) != hits {
				t.Errorf("a Get behind %s: %+v", told(c), r)
			}
		}
	}
}

// Promise 16.1: what ends is there ahead of its end, and not at it, nor behind it.
func TestEnd(t *testing.T) {
	p := begin(t)
	p.is(setTill("a", "v", 0, 5), 1000, stored)
	for _, c := range []struct {
		now  int64
		hits int
	}{{1000, 1}, {1004, 1}, {1005, 0}, {1006, 0}, {lastSecond, 0}, {1004, 1}, {1, 1}} {
		if r := p.is(gets("a"), c.now, values); len(r.Hits) != c.hits {
			t.Errorf("Gets at %d: %+v", c.now, r)
		}
		if _, ok := p.m.Get("a", c.now); ok != (c.hits == 1) {
			t.Errorf("Get at %d: %t", c.now, ok)
		}
		if list := p.m.Keys(c.now); len(list) != c.hits {
			t.Errorf("Keys at %d: %q", c.now, list)
		}
	}
	p.is(touch("a", 0), 1004, touched)
	if _, ok := p.m.Get("a", math.MaxInt64); !ok {
		t.Error("what is kept for ever is gone")
	}
}

// Promise 16.1: Cas with the number that was read, with another one, with none, and once more.
func TestCas(t *testing.T) {
	p := begin(t)
	p.is(set("z", "z"), 1000, stored)
	p.is(set("a", "one"), 1000, stored)
	n := p.is(gets("a"), 1000, values).Hits[0].Cas
	if n != 2 {
		t.Fatalf("the number is %d", n)
	}
	for _, other := range []uint64{0, n - 1, n + 1, n + 2, n + 1<<32, n | 1<<63, math.MaxUint64} {
		p.is(cas("a", "wrong", other), 1000, exists)
	}
	p.is(cas("z", "wrong", n), 1000, exists)
	p.is(cas("none", "wrong", n), 1000, notFound)
	p.is(cas("none", "wrong", 0), 1000, notFound)
	p.is(cas("a", "two", n), 1000, stored)
	p.has("a", api.Entry{Value: "two", Cas: 3})
	p.is(cas("a", "three", n), 1000, exists)
	p.is(cas("a", "three", 0), 1000, exists)
	p.is(cas("a", "three", 3), 1000, stored)
	p.is(touch("a", 5), 1000, touched) // it stays the one that it was
	p.is(cas("a", "four", 4), 1004, stored)
	p.has("a", api.Entry{Value: "four", Cas: 5})
	p.is(del("a"), 1004, deleted)
	p.is(cas("a", "five", 5), 1004, notFound)
	p.is(set("a", "four"), 1004, stored)
	p.is(cas("a", "five", 5), 1004, exists)
}

// Promise 16.1: Append and Prepend: to the limit, and past it; of nothing; Flags and end stay.
func TestJoin(t *testing.T) {
	for _, kind := range []int{api.Append, api.Prepend} {
		for _, c := range []struct {
			was, more int
			code      int
		}{{0, 0, stored}, {0, 1, stored}, {1, 0, stored}, {0, 2000, stored}, {2000, 0, stored}, {1, 1999, stored}, {1999, 1, stored}, {1000, 1000, stored},
			{2000, 1, tooLarge}, {1, 2000, tooLarge}, {1000, 1001, tooLarge}, {2000, 2000, tooLarge}, {1999, 2, tooLarge}} {
			p := begin(t)
			was, more := strings.Repeat("w", c.was), strings.Repeat("m", c.more)
			p.is(setTill("a", was, 9, 100), 1000, stored)
			p.is(lays(kind, "a", more), 1050, c.code)
			want := api.Entry{Value: was, Flags: 9, Exp: 1100, Cas: 1}
			if c.code == stored {
				want.Cas = 2
				if want.Value = was + more; kind == api.Prepend {
					want.Value = more + was
				}
			}
			p.has("a", want)
		}
	}
	p := begin(t)
	p.is(setTill("a", "\xff\x00", 1<<32-1, -1), 1000, stored)
	p.is(lays(api.Append, "a", "x"), 1000, notStored)
	p.is(setTill("a", "\xff\x00", 1<<32-1, 0), 1000, stored)
	p.is(lays(api.Append, "a", "\r\n"), 1000, stored)
	p.is(lays(api.Prepend, "a", "\x80"), 1000, stored)
	p.has("a", api.Entry{Value: "\x80\xff\x00\r\n", Flags: 1<<32 - 1, Cas: 4})
	if r := p.is(get("a"), 1000, values); len(r.Hits) != 1 || r.Hits[0].Value != "\x80\xff\x00\r\n" || r.Hits[0].Flags != 1<<32-1 {
		t.Errorf("Get: %+v", r)
	}
}

// Promise 16.1: reading several keys: in their order, one of them twice, some without an entry.
func TestSeveralKeys(t *testing.T) {
	for _, kind := range []int{api.Get, api.Gets, api.Gat, api.Gats} {
		p := with(t)
		p.is(setTill("d", "40", 8, 0), 1000, stored)
		read := func(want string, keys ...string) {
			t.Helper()
			r := p.is(api.Command{Kind: kind, Keys: keys}, 1000, values)
			got := ""
			for _, h := range r.Hits {
				got += h.Key + "=" + h.Value + "/" + strconv.Itoa(int(h.Flags)) + "/" + strconv.Itoa(int(h.Cas)) + " "
			}
			if got != want {
				t.Errorf("%s of %q: %s, not %s", verb.Name(kind), keys, got, want)
			}
		}
		read("a=10/5/1 d=40/8/4 ", "a", "d")
		read("d=40/8/4 a=10/5/1 ", "d", "a")
		read("d=40/8/4 a=10/5/1 d=40/8/4 ", "d", "none", "a", "b", "d", "c")
		read("a=10/5/1 a=10/5/1 ", "a", "a")
		read("", "none", "b", "c", "none")
		read(strings.Repeat("a=10/5/1 ", 8), "a", "a", "a", "a", "a", "a", "a", "a")
		read("a=10/5/1 ", "none", "b", "c", "x", "y", "zz", "b", "a")
	}
}

// Promise 16.1: Gat and Gats show what there is, and move its end; they go key by key.
func TestGat(t *testing.T) {
	for _, kind := range []int{api.Gat, api.Gats} {
		p := with(t)
		p.is(setTill("d", "40", 8, 0), 1000, stored)
		r := p.is(api.Command{Kind: kind, Keys: []string{"d", "b", "a", "none"}, Exp: 30}, 1000, values)
		if !slices.Equal(r.Hits, []verb.Hit{{Key: "d", Flags: 8, Value: "40", Cas: 4}, {Key: "a", Flags: 5, Value: "10", Cas: 1}}) {
			t.Errorf("%+v", r)
		}
		p.has("a", api.Entry{Value: "10", Flags: 5, Exp: 1030, Cas: 1})
		p.has("b", api.Entry{Value: "20", Flags: 6, Exp: 1000, Cas: 2})
		p.has("d", api.Entry{Value: "40", Flags: 8, Exp: 1030, Cas: 4})
		p.hasNot("none")
		p.is(cas("a", "11", 1), 1029, stored)
		// Its end is behind it once it was told: the second time it is none.
		r = p.is(api.Command{Kind: kind, Keys: []string{"a", "d", "a", "d"}, Exp: -1}, 1029, values)
		if !slices.Equal(r.Hits, []verb.Hit{{Key: "a", Value: "11", Cas: 5}, {Key: "d", Flags: 8, Value: "40", Cas: 4}}) {
			t.Errorf("%+v", r)
		}
		if list := p.m.Keys(1029); len(list) != 0 {
			t.Errorf("keys %q", list)
		}
		p.drop("a", true)
		p.drop("d", true)
	}
}

// Promise 16.1: a Flush takes all away, what is gone, too; the numbers go on.
func TestFlush(t *testing.T) {
	p := with(t)
	for range 2 {
		p.is(flush(), 1000, done)
		for _, key := range []string{"a", "b", "c", "none"} {
			p.hasNot(key)
			p.drop(key, false)
		}
	}
	p.is(cas("a", "v", 1), 1000, notFound)
	p.is(set("a", "v"), 1000, stored)
	p.has("a", api.Entry{Value: "v", Cas: 4})
	p.is(api.Command{Kind: api.Flush, Quiet: true}, 1, done)
	p.hasNot("a")
	p.is(lays(api.Add, "b", "v"), 1, stored)
	p.has("b", api.Entry{Value: "v", Cas: 5})
}

// Promise 16.1: Incr and Decr of numbers, at the ends of their type, too.
func TestCount(t *testing.T) {
	const most = math.MaxUint64
	for _, c := range []struct {
		was   string
		kind  int
		delta uint64
		n     uint64
	}{
		{"0", api.Incr, 0, 0}, {"0", api.Incr, 1, 1}, {"10", api.Incr, 5, 15}, {"9", api.Incr, 1, 10}, {"0", api.Incr, most, most}, {"007", api.Incr, 1, 8}, {"000", api.Incr, 0, 0},
		{"18446744073709551614", api.Incr, 1, most}, {"18446744073709551615", api.Incr, 0, most}, {"18446744073709551615", api.Incr, 1, 0}, {"18446744073709551615", api.Incr, 2, 1},
		{"18446744073709551615", api.Incr, most, most - 1}, {"18446744073709551614", api.Incr, 3, 1}, {"1", api.Incr, most, 0}, {"2", api.Incr, most, 1},
		{"9223372036854775807", api.Incr, 1, 1 << 63}, {"9223372036854775808", api.Incr, 1 << 63, 0}, {"4294967295", api.Incr, 1, 1 << 32}, {"00000000000000000009", api.Incr, 1, 10},
		{"0", api.Decr, 0, 0}, {"0", api.Decr, 1, 0}, {"0", api.Decr, most, 0}, {"10", api.Decr, 3, 7}, {"10", api.Decr, 10, 0}, {"10", api.Decr, 11, 0}, {"10", api.Decr, 9, 1}, {"10", api.Decr, 0, 10},
		{"100", api.Decr, 1, 99}, {"007", api.Decr, 0, 7}, {"18446744073709551615", api.Decr, 0, most}, {"18446744073709551615", api.Decr, 1, most - 1},
		{"18446744073709551615", api.Decr, most, 0}, {"18446744073709551614", api.Decr, most, 0}, {"9223372036854775808", api.Decr, 1, 1<<63 - 1}, {"9223372036854775807", api.Decr, 1 << 63, 0},
	} {
		p := begin(t)
		p.is(setTill("a", c.was, 9, 100), 1000, stored)
		m := api.Command{Kind: c.kind, Keys: []string{"a"}, Delta: c.delta}
		if r := p.is(m, 1099, number); r.N != c.n || len(r.Hits) != 0 {
			t.Errorf("%s of %s: %+v, not %d", told(m), c.was, r, c.n)
		}
		p.has("a", api.Entry{Value: strconv.FormatUint(c.n, 10), Flags: 9, Exp: 1100, Cas: 2})
	}
}

// noNumbers are Values that are no numbers.
func noNumbers() []string {
	list := []string{"", " ", "-", "+", "x", "1x", "x1", "-1", "+1", " 1", "1 ", "1 2", "1.0", "0x1", "1e3", "1_000", "\x00", "1\x00", "1\n", "1\r\n", "\xff", "\u0661", "\uff11",
		"18446744073709551616", "18446744073709551620", "20000000000000000000", "99999999999999999999", "000000000000000000001", strings.Repeat("0", 21), "184467440737095516150",
		strings.Repeat("9", 100), strings.Repeat("1", 2000)}
	for b := range 256 {
		if b < '0' || b > '9' {
			list = append(list, string([]byte{byte(b)}), string([]byte{'1', byte(b), '1'}), string([]byte{byte(b), '1'}), string([]byte{'1', byte(b)}))
		}
	}
	return list
}

// Promise 16.1: Incr and Decr of what is no number change nothing.
func TestNoNumber(t *testing.T) {
	p := begin(t)
	laid := uint64(0)
	for _, value := range noNumbers() {
		p.is(setTill("a", value, 9, 100), 1000, stored)
		laid++
		for _, delta := range []uint64{0, 1, math.MaxUint64} {
			p.is(incr("a", delta), 1000, noNumber)
			p.is(decr("a", delta), 1000, noNumber)
			p.fails(incr("a", delta), 1000, noNumber)
			p.fails(decr("a", delta), 1000, noNumber)
		}
		p.has("a", api.Entry{Value: value, Flags: 9, Exp: 1100, Cas: laid})
	}
}

// Promise 16.1: Quiet does not matter.
func TestQuiet(t *testing.T) {
	for _, key := range []string{"a", "b", "c", "none"} {
		for i, c := range eachKind(key, 1) {
			if i < 4 {
				continue // those that read have none
			}
			for _, failed := range []bool{false, true} {
				p, q := with(t), with(t)
				r, e := p.do(c, 1000, failed)
				c.Quiet = true
				if r2, e2 := q.do(c, 1000, failed); !same(r, r2) || e != e2 || e != api.OK {
					t.Errorf("%s: %+v, error %d, not %+v, error %d", told(c), r2, e2, r, e)
				}
			}
		}
	}
}

// Promise 16.2: Drop of a key without an entry, with one, with one that is gone, once more.
func TestDrop(t *testing.T) {
	p := with(t)
	p.drop("none", false)
	for _, key := range []string{"c", "a", "b"} {
		p.drop(key, true)
		p.drop(key, false)
		p.hasNot(key)
		p.is(get(key), 1000, values)
	}
	p.is(set("a", "v"), 1000, stored) // the number goes on
	p.has("a", api.Entry{Value: "v", Cas: 4})
	p.is(del("a"), 1000, deleted)
	p.drop("a", false)
	p.fails(set("a", "v"), 1000, noMemory)
	p.drop("a", false)
	p.is(setTill("a", "v", 0, -1), 1000, stored)
	p.is(del("a"), 1000, notFound) // gone, but not taken away
	p.drop("a", true)
}

// Promise 16.2: Get with each field; at seconds that are none it goes by the end alone.
func TestGet(t *testing.T) {
	p := begin(t)
	p.is(setTill("a", "v", 1<<32-1, 5), 1000, stored)
	p.is(setTill("b", "", 0, 0), 1000, stored)
	p.is(setTill("c", "v", 0, -1), 1000, stored)
	for _, now := range append([]int64{1, 2, 999, 1000, 1004, 1005, 1006, lastSecond}, noSeconds...) {
		p.at(now)
		for i, key := range []string{"a", "b", "c"} {
			_, ok := p.m.Get(key, now)
			if want := now < []int64{1005, math.MaxInt64, 1}[i] || key == "b"; ok != want {
				t.Errorf("Get(%s, %d): %t", key, now, ok)
			}
		}
	}
}

// Promise 16.2: keys of which one is another's beginning, of one byte and of 32, and of each byte, are each by itself.
func TestKeys(t *testing.T) {
	var keys []string
	for n := 1; n <= 32; n++ {
		keys = append(keys, strings.Repeat("k", n), strings.Repeat("k", n-1)+"j", strings.Repeat("k", n-1)+"~")
	}
	for b := byte(33); b <= 126; b++ {
		keys = append(keys, string([]byte{b}), strings.Repeat(string([]byte{b}), 32), "key"+string([]byte{b}))
	}
	slices.Sort(keys)
	keys = slices.Compact(keys)
	p := begin(t)
	for i := range keys {
		key := keys[i*7919%len(keys)]
		if _, e := p.m.Do(setTill(key, "of "+key, uint32(i), 0), 1000, false); e != api.OK {
			t.Fatalf("Set of %q: error %d", key, e)
		}
		p.b.do(setTill(key, "of "+key, uint32(i), 0), 1000, false)
	}
	p.whole()
	if got := p.m.Keys(1000); !slices.Equal(got, keys) {
		t.Fatalf("keys %q, not %q", got, keys)
	}
	for _, key := range keys {
		x, ok := p.m.Get(key, 1000)
		if !ok || x.Value != "of "+key {
			t.Errorf("Get(%q): %v, %t", key, x, ok)
		}
		if r := p.is(get(key), 1000, values); len(r.Hits) != 1 || r.Hits[0].Key != key || r.Hits[0].Value != "of "+key {
			t.Errorf("Get of %q: %+v", key, r)
		}
	}
	for i, key := range keys {
		if i%2 == 0 {
			p.drop(key, true)
		}
	}
}

// Promise 16.2: texts that are no keys have nothing, also such as begin with a key, or with which one begins.
func TestTextsThatAreNoKeys(t *testing.T) {
	full := strings.Repeat("k", 32)
	p := begin(t)
	for _, key := range []string{"a", "ab", full, full[:31], "k"} {
		p.is(set(key, "of "+key), 1000, stored)
	}
	texts := []string{"", " ", "\x00", "a\x00", "a\x00\x00", "\x00a", "a ", " a", "a\n", "ab\x00", "a b", "a\x01", "\x01", " ", "a\x7f", "a\xff", "\xe4", "\u00e4",
		full + "k", full + "\x00", full + " ", full[:31] + "\x00", full[:30] + "\x00\x00", full + full, strings.Repeat("k", 256), strings.Repeat("k", 256+1), strings.Repeat("k", 256+2), strings.Repeat("k", 256+32),
		strings.Repeat("a", 257), "a" + strings.Repeat("\x00", 256), strings.Repeat("k", 1<<16), strings.Repeat("k", 1<<16+1), strings.Repeat("k", 1<<20)}
	for n := 1; n <= 32; n++ {
		texts = append(texts, strings.Repeat("\x00", n), strings.Repeat("\x00", n)+"a", "a"+strings.Repeat("\x00", n), "a"+strings.Repeat("\x00", n)+"\x01", strings.Repeat("\x00", n)+"\x01", strings.Repeat("\x20", n), strings.Repeat("\xff", n))
	}
	for n := range 32 {
		texts = append(texts, full[:31]+string([]byte{byte(n)}), full+string([]byte{byte(n)}), string([]byte{byte(n)})+full)
	}
	for _, text := range texts {
		for _, now := range []int64{always, 0, 1000, math.MaxInt64} {
			if x, ok := p.m.Get(text, now); ok || x != (api.Entry{}) {
				t.Errorf("Get(%.40q, %d): %v", text, now, x)
			}
		}
		p.drop(text, false)
	}
	if list := p.m.Keys(1000); len(list) != 5 {
		t.Errorf("keys %q", list)
	}
}

// Promise 16.2: a copy has what the model had, and its number; what happens to the one does not happen to the other.
func TestCopy(t *testing.T) {
	for _, first := range []bool{false, true} {
		for _, key := range []string{"a", "b", "none"} {
			for _, c := range append(eachKind(key, 1), setTill("d", "v", 1, 1), gat(-1, "a", "c")) {
				one := with(t)
				two := one.copied()
				if one.m == two.m {
					t.Fatal("a copy is the model itself")
				}
				two.whole()
				if first {
					one, two = two, one
				}
				one.do(c, 1000, false)
				two.whole()
				two.do(c, 1000, false) // numbers go on from the same one
				one.whole()
				one.drop("b", one.b.place("b") >= 0)
				two.whole()
				two.do(set("e", "v"), 1000, false)
				one.whole()
				one.do(set("e", "v"), 1000, false)
				one.copied().copied().whole()
			}
		}
	}
}

// Rule R4: what was handed out has nothing in common with the model, nor with another answer; what was handed in, neither.
func TestNothingIsShared(t *testing.T) {
	p := with(t)
	p.is(set("d", "40"), 1000, stored)
	want := p.m.Keys(1000)
	list := p.m.Keys(1000)
	for i := range list {
		list[i] = "changed"
	}
	_ = append(list[:0], "x", "y", "z")
	if got := p.m.Keys(1000); !slices.Equal(got, want) {
		t.Errorf("keys %q, not %q", got, want)
	}
	for _, c := range []api.Command{get("a", "d"), gets("a", "d"), gat(5, "a", "d"), gats(5, "a", "d")} {
		one := p.is(c, 1000, values)
		two := p.is(c, 1000, values)
		kept := slices.Clone(two.Hits)
		for i := range one.Hits {
			one.Hits[i] = verb.Hit{Key: "changed", Flags: 99, Value: "changed", Cas: 99}
		}
		_ = append(one.Hits[:0], verb.Hit{}, verb.Hit{})
		if !slices.Equal(two.Hits, kept) {
			t.Errorf("%s: %+v, not %+v", told(c), two.Hits, kept)
		}
		p.whole()
	}
	x, _ := p.m.Get("a", 1000)
	x.Value, x.Flags, x.Exp, x.Cas = "changed", 99, 99, 99
	p.whole()
	// The lists of keys of commands that were done are written to, their spare room, too.
	keys := []string{"e", "f", "behind", "it"}
	for _, c := range []api.Command{{Kind: api.Set, Keys: keys[:1], Value: "v"}, {Kind: api.Get, Keys: keys[:2]}, {Kind: api.Gat, Keys: keys[:2], Exp: 9}, {Kind: api.Append, Keys: keys[:1], Value: "w"},
		{Kind: api.Incr, Keys: keys[:1]}, {Kind: api.Delete, Keys: keys[1:2]}} {
		r, _ := p.do(c, 1000, false)
		if !slices.Equal(keys, []string{"e", "f", "behind", "it"}) {
			t.Fatalf("%s: the keys are %q", told(c), keys)
		}
		hits := slices.Clone(r.Hits)
		keys[0], keys[1], keys[2] = "a", "a", "a"
		p.whole()
		if !slices.Equal(r.Hits, hits) {
			t.Errorf("%s: %+v, not %+v", told(c), r.Hits, hits)
		}
		keys[0], keys[1], keys[2] = "e", "f", "behind"
	}
}

// Promise 16.1: two models have nothing in common.
func TestTwoModels(t *testing.T) {
	p, q := begin(t), begin(t)
	p.is(set("a", "p"), 1000, stored)
	q.whole()
	q.is(set("b", "q"), 1000, stored)
	q.has("b", api.Entry{Value: "q", Cas: 1})
	p.whole()
	q.is(flush(), 1000, done)
	p.whole()
	p.drop("a", true)
}

// Promise 16.3: what reads, but Gat and Gats, changes nothing; nor does what is asked for.
func TestReadsChangeNothing(t *testing.T) {
	p := with(t)
	for _, now := range []int64{1, 999, 1000, 1049, 1050, lastSecond} {
		for _, failed := range []bool{false, true} {
			for _, keys := range [][]string{{"a"}, {"b"}, {"c"}, {"none"}, {"a", "b", "c", "none", "a"}} {
				p.do(get(keys...), now, failed)
				p.do(gets(keys...), now, failed)
			}
		}
	}
	p.has("a", api.Entry{Value: "10", Flags: 5, Exp: 1050, Cas: 1})
	p.has("b", api.Entry{Value: "20", Flags: 6, Exp: 1000, Cas: 2})
	p.has("c", api.Entry{Value: "30", Flags: 7, Exp: 1, Cas: 3})
	p.is(set("d", "v"), 1000, stored)
	p.has("d", api.Entry{Value: "v", Cas: 4})
}

// Promise 16.3: what was laid in is read, till something else is, or it is gone.
func TestWhatWasLaidInIsRead(t *testing.T) {
	p := begin(t)
	read := func(now int64, want string) {
		t.Helper()
		r := p.is(gets("a"), now, values)
		got := ""
		for _, h := range r.Hits {
			got = h.Value
		}
		if got != want {
			t.Errorf("at %d: %q, not %q", now, got, want)
		}
	}
	p.is(setTill("a", "one", 0, 10), 1000, stored)
	for now := int64(1000); now < 1010; now++ {
		p.is(set("b", "other"), now, stored)
		p.is(lays(api.Add, "a", "no"), now, notStored)
		p.is(cas("a", "no", 1<<40), now, exists)
		p.is(incr("a", 1), now, noNumber)
		p.fails(lays(api.Replace, "a", "no"), now, noMemory)
		read(now, "one")
	}
	read(1010, "")
	p.is(lays(api.Add, "a", "two"), 1010, stored)
	read(1010, "two")
	read(lastSecond, "two")
	p.is(lays(api.Append, "a", "!"), lastSecond, stored)
	read(lastSecond, "two!")
}

// noise hands out numbers without order, the same ones each time.
func noise(v uint64) func(n int) int {
	return func(n int) int {
		v ^= v << 13
		v ^= v >> 7
		v ^= v << 17
		return int(v >> 1 % uint64(n))
	}
}

// anyCommand is a command without order, most often a right one, for few keys.
func anyCommand(next func(int) int, laid uint64) api.Command {
	keys := []string{"a", "b", "ab", "k", strings.Repeat("k", 31), strings.Repeat("k", 32)}
	texts := []string{"", "0", "1", "10", "999", "18446744073709551615", "18446744073709551616", "x", "-1", " 1", "007", strings.Repeat("v", 999), strings.Repeat("w", 1000), strings.Repeat("9", 2000)}
	exps := []int64{0, 0, 0, -1, 1, 2, 5, 50, month, month + 1, 2999990, 3000003, 1 << 33, math.MinInt64}
	deltas := []uint64{0, 1, 2, 9, 10, 1000, math.MaxUint64, 1 << 63}
	c := api.Command{Kind: 1 + next(14), Keys: []string{keys[next(len(keys))]}}
	if next(60) == 0 {
		c = flush()
	}
	if c.Kind <= 4 {
		for range next(8) {
			c.Keys = append(c.Keys, keys[next(len(keys))])
		}
	}
	switch c.Kind {
	case api.Set, api.Add, api.Replace, api.Cas:
		c.Value, c.Flags, c.Exp = texts[next(len(texts))], uint32(next(5)), exps[next(len(exps))]
	case api.Append, api.Prepend:
		c.Value = texts[next(len(texts))]
	case api.Gat, api.Gats, api.Touch:
		c.Exp = exps[next(len(exps))]
	case api.Incr, api.Decr:
		c.Delta = deltas[next(len(deltas))]
	}
	if c.Kind == api.Cas && laid > 0 {
		c.Cas = laid - uint64(next(int(min(laid, 12))))
	}
	c.Quiet = c.Kind > 4 && next(2) == 0
	if next(50) == 0 {
		c.Exp, c.Kind = -7, next(18)-1 // most often wrong
	}
	return c
}

// Promises 16.1, 16.2 and 16.3: calls without order, held against the document's words; numbers rise, and no two entries have one.
func TestManyCalls(t *testing.T) {
	found := map[int]int{}
	for seed := range 24 {
		next := noise(uint64(seed)*7919 + 88172645463325252)
		p := begin(t)
		now := int64(3000000 - next(20))
		var numbers map[string]uint64
		for range 1500 {
			if next(3) == 0 {
				now = max(1, now+int64(next(5))-1)
			}
			at := now
			if next(40) == 0 {
				at = noSeconds[next(len(noSeconds))]
			}
			r, e := p.do(anyCommand(next, p.b.laid), at, next(4) == 0)
			found[r.Code]++
			if e != api.OK {
				found[-int(e)]++
			}
			if next(25) == 0 {
				key := []string{"a", "b", "ab", "k", "none"}[next(5)]
				p.drop(key, p.b.place(key) >= 0)
			}
			if next(100) == 0 {
				other := p
				if p = p.copied(); next(2) == 0 {
					p, other = other, p
				}
				other.is(set("other", "v"), 1000, stored)
			}
			numbers = p.numbers(numbers)
		}
	}
	for code := values; code <= tooLarge; code++ {
		if found[code] < 20 {
			t.Errorf("code %d came %d times", code, found[code])
		}
	}
	for _, e := range []int{1, 6, 70} {
		if found[-e] < 20 {
			t.Errorf("error %d came %d times", e, found[-e])
		}
	}
}

// numbers are those of all entries, gone or not; it asks that no two have one, and that each that was not there ahead is above all that were.
func (p *pair) numbers(ahead map[string]uint64) map[string]uint64 {
	p.t.Helper()
	most := uint64(0)
	for _, n := range ahead {
		most = max(most, n)
	}
	now := map[string]uint64{}
	seen := map[uint64]string{}
	for _, key := range p.m.Keys(always) {
		x, _ := p.m.Get(key, always)
		if other, is := seen[x.Cas]; is || x.Cas == 0 {
			p.t.Fatalf("%q and %q have the number %d", key, other, x.Cas)
		}
		if x.Cas != ahead[key] && x.Cas <= most {
			p.t.Fatalf("%q has the number %d; the greatest one ahead was %d", key, x.Cas, most)
		}
		seen[x.Cas] = key
		now[key] = x.Cas
	}
	return now
}

// Promises 16.1 and 16.3: all ways in which up to three calls go on, for one key, at a second and at its end, with memory and without.
func TestEachOrder(t *testing.T) {
	list := []api.Command{set("a", "7"), setTill("a", "x", 3, 5), setTill("a", "8", 4, -1), lays(api.Add, "a", "9"), lays(api.Replace, "a", "10"),
		lays(api.Append, "a", "1"), lays(api.Prepend, "a", ""), cas("a", "c", 1), cas("a", "c", 2), incr("a", 5), decr("a", 8), del("a"), touch("a", 5), touch("a", -1),
		gats(5, "a"), gat(0, "a"), get("a"), flush(), api.Command{Kind: api.Set, Keys: []string{"b"}}}
	var on func(p *pair, depth int)
	on = func(p *pair, depth int) {
		for _, c := range list {
			for way := range 4 {
				q := p.copied()
				now := 1000 + 5*int64(way&1)
				want, _ := q.b.do(c, now, way > 1)
				r, e := q.m.Do(c, now, way > 1)
				if e != api.OK || !same(r, want) {
					t.Fatalf("%s at %d, failed %t: %+v, error %d, not %+v", told(c), now, way > 1, r, e, want)
				}
				q.at(always)
				q.at(now)
				if depth > 1 {
					on(q, depth-1)
				}
			}
		}
	}
	on(begin(t), 3)
}

// Rule R6: many entries, and long Values.
func TestMany(t *testing.T) {
	const n = 20000
	m := New()
	for i := range n {
		key := "k" + strconv.Itoa(i)
		if r, e := m.Do(setTill(key, key, uint32(i), int64(1+i%2*100)), 1000, false); e != api.OK || r.Code != stored {
			t.Fatalf("Set of %s: %+v, error %d", key, r, e)
		}
	}
	if list := m.Keys(1000); len(list) != n || !slices.IsSorted(list) {
		t.Errorf("%d keys", len(list))
	}
	if list := m.Keys(1001); len(list) != n/2 || !slices.IsSorted(list) {
		t.Errorf("%d keys behind the end of half of them", len(list))
	}
	for i := range n {
		key := "k" + strconv.Itoa(i)
		if x, ok := m.Get(key, 1000); !ok || x != (api.Entry{Value: key, Flags: uint32(i), Exp: int64(1001 + i%2*100), Cas: uint64(i + 1)}) {
			t.Fatalf("Get(%s): %v, %t", key, x, ok)
		}
	}
}

// FuzzCalls holds calls that bytes tell against the document's words.
func FuzzCalls(f *testing.F) {
	f.Add(uint64(1), []byte("a few calls"))
	f.Add(uint64(88172645463325252), []byte{0, 255, 3, 9, 17, 80, 200})
	f.Fuzz(func(t *testing.T, seed uint64, b []byte) {
		next := noise(seed | 1)
		p := begin(t)
		now := int64(3000000)
		for _, v := range b[:min(len(b), 200)] {
			now += int64(v>>5) - 2
			for range v & 7 {
				next(2)
			}
			p.do(anyCommand(next, p.b.laid), now, v&8 != 0)
			if v&24 == 24 {
				p.drop("a", p.b.place("a") >= 0)
			}
		}
	})
}
