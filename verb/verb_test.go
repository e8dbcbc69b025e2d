package verb

import (
	"hash/fnv"
	"math"
	"math/bits"
	"slices"
	"strconv"
	"strings"
	"testing"

	"tallboy/api"
)

// kindWords is a line of the document's for each kind: its name, the least and the most keys, and which fields it has
// (V Value, F Flags, E Exp, C Cas, D Delta, Q Quiet).
type kindWords struct {
	kind        int
	name        string
	least, most int
	fields      string
	stores      bool
	shows       bool
}

// kinds are all that there are, by the document's words.
var kinds = []kindWords{
	{1, "get", 1, 8, "", false, false},
	{2, "gets", 1, 8, "", false, true},
	{3, "gat", 1, 8, "E", false, false},
	{4, "gats", 1, 8, "E", false, true},
	{5, "set", 1, 1, "VFEQ", true, false},
	{6, "add", 1, 1, "VFEQ", true, false},
	{7, "replace", 1, 1, "VFEQ", true, false},
	{8, "append", 1, 1, "VQ", true, false},
	{9, "prepend", 1, 1, "VQ", true, false},
	{10, "cas", 1, 1, "VFECQ", true, false},
	{11, "delete", 1, 1, "Q", false, false},
	{12, "incr", 1, 1, "DQ", false, false},
	{13, "decr", 1, 1, "DQ", false, false},
	{14, "touch", 1, 1, "EQ", false, false},
	{15, "flush_all", 0, 0, "Q", false, false},
}

// noKinds are numbers that are no kind; the lowest bits of many of them are one.
var noKinds = []int{0, -1, -2, -4, -5, -10, -14, -15, -16, -17, 16, 17, 18, 20, 31, 32, 33, 64, 70, 100, 127, 128, 129, 255, 256, 257, 256 + 5, 256 + 15, -256 + 5,
	1 << 16, 1<<16 + 5, math.MaxInt32, math.MinInt32, math.MinInt32 + 5, 1 << 31, 1<<31 + 1, 1 << 32, 1<<32 + 1, 1<<32 + 5, 1<<32 + 15, -1 << 32, -1<<32 + 5,
	1 << 62, 1<<62 + 5, math.MaxInt, math.MaxInt - 1, math.MinInt, math.MinInt + 1, math.MinInt + 5, math.MinInt + 15}

// wordsOf is a kind's line, if it is one.
func wordsOf(kind int) (kindWords, bool) {
	for _, w := range kinds {
		if w.kind == kind {
			return w, true
		}
	}
	return kindWords{}, false
}

// isKey is fnv.Key by the document's words.
func isKey(s string) bool {
	return len(s) >= 1 && len(s) <= 32 && !slices.ContainsFunc([]byte(s), func(b byte) bool { return b < 33 || b > 126 })
}

// stripeOf is a key's stripe, by Go's library.
func stripeOf(key string) int {
	h := fnv.New32a()
	h.Write([]byte(key))
	return int(h.Sum32() / 65536 % 4)
}

// fieldsOf is the signs of a command's fields that are not zero.
func fieldsOf(c api.Command) string {
	var b strings.Builder
	for _, f := range []struct {
		sign byte
		is   bool
	}{{'V', len(c.Value) > 0}, {'F', c.Flags > 0}, {'E', c.Exp < 0 || c.Exp > 0}, {'C', c.Cas > 0}, {'D', c.Delta > 0}, {'Q', c.Quiet}} {
		if f.is {
			b.WriteByte(f.sign)
		}
	}
	return b.String()
}

// wantCheck is Check by the document's words.
func wantCheck(c api.Command) api.Errno {
	w, ok := wordsOf(c.Kind)
	if !ok {
		return 70
	}
	if n := len(c.Keys); n < w.least || n > w.most {
		return 6
	}
	for _, key := range c.Keys {
		if !isKey(key) {
			return 6
		}
	}
	for _, sign := range fieldsOf(c) {
		if !strings.ContainsRune(w.fields, sign) {
			return 6
		}
	}
	if len(c.Value) > 2000 {
		return 7
	}
	return 0
}

// wantStripes is Stripes by the document's words.
func wantStripes(c api.Command) []int {
	if c.Kind == 15 {
		return []int{0, 1, 2, 3}
	}
	var list []int
	for stripe := range 4 {
		for _, key := range c.Keys {
			if stripeOf(key) == stripe {
				list = append(list, stripe)
				break
			}
		}
	}
	return list
}

// told is a command in few words, for a complaint.
func told(c api.Command) api.Command {
	if len(c.Value) > 20 {
		c.Value = c.Value[:20] + ".."
	}
	return c
}

func checkIs(t *testing.T, c api.Command, want api.Errno) {
	t.Helper()
	if e := Check(c); e != want {
		t.Errorf("Check(%+v), a Value of %d bytes: error %d, not %d", told(c), len(c.Value), e, want)
	}
	if e := wantCheck(c); e != want {
		t.Errorf("the test is wrong: Check(%+v): error %d, not %d", told(c), e, want)
	}
}

func checkStripes(t *testing.T, c api.Command, want ...int) {
	t.Helper()
	if got := Stripes(c); !slices.Equal(got, want) {
		t.Errorf("Stripes(%+v): %v, not %v", told(c), got, want)
	}
	if list := wantStripes(c); !slices.Equal(list, want) {
		t.Errorf("the test is wrong: Stripes(%+v): %v, not %v", told(c), list, want)
	}
}

// keys are so many keys, none like another.
func keys(n int) []string {
	list := make([]string, n)
	for i := range list {
		list[i] = "k" + strconv.Itoa(i)
	}
	return list
}

// right is a command of a kind with as many keys as it has at least, and nothing else.
func right(w kindWords) api.Command { return api.Command{Kind: w.kind, Keys: keys(w.least)} }

// with is a command with one field more.
func with(c api.Command, sign byte, number uint64) api.Command {
	switch sign {
	case 'V':
		c.Value = strings.Repeat("v", int(number))
	case 'F':
		c.Flags = uint32(number)
	case 'E':
		c.Exp = int64(number)
	case 'C':
		c.Cas = number
	case 'D':
		c.Delta = number
	case 'Q':
		c.Quiet = number != 0
	}
	return c
}

// numbersOf are numbers, none of them zero, that a field may be.
func numbersOf(sign byte) []uint64 {
	switch sign {
	case 'V':
		return []uint64{1, 2, 255, 256, 1024, 1999, 2000}
	case 'F':
		return []uint64{1, 2, 255, 256, 1 << 16, 1<<31 - 1, 1 << 31, 1<<32 - 1}
	case 'Q':
		return []uint64{1}
	}
	return []uint64{1, 2, 255, 256, 1 << 16, 1<<31 - 1, 1 << 31, 1<<32 - 1, 1 << 32, 1<<32 + 1, 1<<63 - 1, 1 << 63, 1<<63 + 1, 1<<64 - 2, 1<<64 - 1}
}

// noKeyTexts are texts that are no keys.
func noKeyTexts() []string {
	list := []string{"", " ", "a b", " a", "a ", "\t", "a\tb", "\r", "\n", "a\r\n", "\x00", "a\x00", "\x00a", "\x7f", "a\x7f", "\x80", "\xff", "a\xffb",
		"\u00e4", "a\u20ac", "\U0001f600", "\ufffd", "\u00a0", strings.Repeat("k", 33), strings.Repeat("k", 34), strings.Repeat("k", 64),
		strings.Repeat("k", 256+1), strings.Repeat("k", 1<<16+1), strings.Repeat("k", 31) + " ", " " + strings.Repeat("k", 31), strings.Repeat(" ", 33)}
	for b := range 256 {
		if b < 33 || b > 126 {
			list = append(list, string([]byte{byte(b)}), string([]byte{'k', byte(b), 'k'}))
		}
	}
	return list
}

// Promises 15.1 and 15.2: the chapter's examples.
func TestExamples(t *testing.T) {
	if e := Check(api.Command{Kind: api.Set}); e != api.ErrField {
		t.Errorf("Check of a Set without a key: error %d", e)
	}
	if k := Kind("flush_all"); k != 15 {
		t.Errorf("Kind of flush_all: %d", k)
	}
	if l := Stripes(api.Command{Kind: api.Flush}); !slices.Equal(l, []int{0, 1, 2, 3}) {
		t.Errorf("Stripes of a Flush: %v", l)
	}
}

// Promise 15.1: what comes of commands has the fields that the document lists, and the codes are the numbers that were given.
func TestResults(t *testing.T) {
	hit := struct {
		Key   string
		Flags uint32
		Value string
		Cas   uint64
	}{"k", 5, "v", 7}
	result := struct {
		Code int
		Hits []Hit
		N    uint64
	}{Values, []Hit{Hit(hit)}, 9}
	if r := Result(result); r.Code != 1 || r.Hits[0] != (Hit{Key: "k", Flags: 5, Value: "v", Cas: 7}) || r.N != 9 {
		t.Errorf("result %+v", r)
	}
	codes := []int{Values, Stored, NotStored, Exists, NotFound, Deleted, Number, NoNumber, Touched, Done, NoMemory, TooLarge}
	for i, code := range codes {
		if code != i+1 {
			t.Errorf("code %d is %d", i+1, code)
		}
	}
}

// Promise 15.1: ordinary commands.
func TestCheck(t *testing.T) {
	k := []string{"k"}
	for _, c := range []struct {
		c    api.Command
		want api.Errno
	}{
		{api.Command{Kind: api.Get, Keys: k}, 0},
		{api.Command{Kind: api.Gets, Keys: []string{"a", "b", "c"}}, 0},
		{api.Command{Kind: api.Gat, Keys: []string{"a", "b"}, Exp: 100}, 0},
		{api.Command{Kind: api.Gats, Keys: k, Exp: -1}, 0},
		{api.Command{Kind: api.Set, Keys: k, Flags: 5, Exp: 100, Value: "v", Quiet: true}, 0},
		{api.Command{Kind: api.Add, Keys: k, Value: "v"}, 0},
		{api.Command{Kind: api.Replace, Keys: k, Exp: -5}, 0},
		{api.Command{Kind: api.Append, Keys: k, Value: "v", Quiet: true}, 0},
		{api.Command{Kind: api.Prepend, Keys: k, Value: "v"}, 0},
		{api.Command{Kind: api.Cas, Keys: k, Flags: 5, Exp: 100, Value: "v", Cas: 7, Quiet: true}, 0},
		{api.Command{Kind: api.Delete, Keys: k, Quiet: true}, 0},
		{api.Command{Kind: api.Incr, Keys: k, Delta: 5}, 0},
		{api.Command{Kind: api.Decr, Keys: k, Delta: 5, Quiet: true}, 0},
		{api.Command{Kind: api.Touch, Keys: k, Exp: 100, Quiet: true}, 0},
		{api.Command{Kind: api.Flush, Quiet: true}, 0},

		{api.Command{Kind: api.Get, Keys: k, Quiet: true}, 6},
		{api.Command{Kind: api.Gats, Keys: k, Quiet: true}, 6},
		{api.Command{Kind: api.Get, Keys: k, Exp: 100}, 6},
		{api.Command{Kind: api.Gets, Keys: k, Cas: 7}, 6},
		{api.Command{Kind: api.Set, Keys: k, Cas: 7}, 6},
		{api.Command{Kind: api.Set, Keys: []string{"a", "b"}}, 6},
		{api.Command{Kind: api.Append, Keys: k, Flags: 5}, 6},
		{api.Command{Kind: api.Append, Keys: k, Exp: 5}, 6},
		{api.Command{Kind: api.Prepend, Keys: k, Flags: 5}, 6},
		{api.Command{Kind: api.Prepend, Keys: k, Exp: -5}, 6},
		{api.Command{Kind: api.Cas, Keys: k, Cas: 7, Delta: 1}, 6},
		{api.Command{Kind: api.Delete, Keys: k, Exp: 5}, 6},
		{api.Command{Kind: api.Delete, Keys: k, Value: "v"}, 6},
		{api.Command{Kind: api.Incr, Keys: k, Value: "5"}, 6},
		{api.Command{Kind: api.Decr, Keys: k, Exp: 5}, 6},
		{api.Command{Kind: api.Touch, Keys: k, Flags: 5}, 6},
		{api.Command{Kind: api.Flush, Exp: 5}, 6},
		{api.Command{Kind: api.Flush, Keys: k}, 6},
	} {
		checkIs(t, c.c, c.want)
	}
}

// Promise 15.1: a Kind that is none, whatever else is right or wrong.
func TestKindsThatAreNone(t *testing.T) {
	for _, kind := range noKinds {
		for _, c := range []api.Command{
			{},
			{Keys: []string{"k"}},
			{Keys: keys(8)},
			{Keys: keys(9)},
			{Keys: []string{""}},
			{Keys: []string{"a b"}, Value: strings.Repeat("v", 2001)},
			{Keys: []string{"k"}, Value: "v", Flags: 5, Exp: 5, Quiet: true},
			{Keys: []string{"k"}, Value: strings.Repeat("v", 2001)},
			{Value: "v", Flags: 1, Exp: -1, Cas: 1, Delta: 1, Quiet: true},
		} {
			c.Kind = kind
			checkIs(t, c, api.ErrCommand)
		}
	}
}

// Promise 15.1: how many Keys each kind has.
func TestHowManyKeys(t *testing.T) {
	for _, w := range kinds {
		for _, n := range []int{0, 1, 2, 3, 4, 5, 6, 7, 8, 9, 10, 15, 16, 17, 255, 256, 257, 264, 1 << 16, 1<<16 + 1, 1<<16 + 8} {
			want := api.Errno(6)
			if n >= w.least && n <= w.most {
				want = 0
			}
			checkIs(t, api.Command{Kind: w.kind, Keys: keys(n)}, want)
		}
	}
}

// Promise 15.1: a list of Keys that is empty is one of no length, also where there is room behind it.
func TestNoKeys(t *testing.T) {
	for _, w := range kinds {
		want := api.Errno(6)
		if w.kind == api.Flush {
			want = 0
		}
		for _, list := range [][]string{nil, {}, make([]string, 0, 8), keys(1)[:0], []string{"a b"}[:0]} {
			checkIs(t, api.Command{Kind: w.kind, Keys: list}, want)
		}
		list := []string{"k", "a b", ""}[:1]
		if want = 0; w.kind == api.Flush {
			want = 6
		}
		checkIs(t, api.Command{Kind: w.kind, Keys: list}, want)
	}
}

// Promise 15.1: a key that is none, at each place among the Keys.
func TestKeysThatAreNone(t *testing.T) {
	for _, w := range kinds {
		for n := 1; n <= max(1, w.most); n++ {
			for place := range n {
				for _, text := range noKeyTexts() {
					list := keys(n)
					list[place] = text
					checkIs(t, api.Command{Kind: w.kind, Keys: list}, api.ErrField)
				}
			}
		}
	}
}

// Promise 15.1: keys of each length that one has, of each byte, and one of them several times.
func TestKeysOfEachKind(t *testing.T) {
	for _, w := range kinds {
		if w.most == 0 {
			continue
		}
		for n := 1; n <= 32; n++ {
			checkIs(t, api.Command{Kind: w.kind, Keys: []string{strings.Repeat("k", n)}}, 0)
		}
		for b := 33; b <= 126; b++ {
			key := string([]byte{byte(b)})
			checkIs(t, api.Command{Kind: w.kind, Keys: []string{key}}, 0)
			checkIs(t, api.Command{Kind: w.kind, Keys: []string{strings.Repeat(key, 32)}}, 0)
		}
		checkIs(t, api.Command{Kind: w.kind, Keys: slices.Repeat([]string{"k"}, w.most)}, 0)
	}
}

// Promise 15.1: each field alone: a kind that has it takes it, one that does not refuses it.
func TestFields(t *testing.T) {
	for _, w := range kinds {
		for _, sign := range "VFECDQ" {
			want := api.Errno(6)
			if strings.ContainsRune(w.fields, sign) {
				want = 0
			}
			for _, number := range numbersOf(byte(sign)) {
				checkIs(t, with(right(w), byte(sign), number), want)
			}
			checkIs(t, with(right(w), byte(sign), 0), 0)
		}
	}
}

// Promise 15.1: an Exp that is below 0, or a second itself.
func TestExp(t *testing.T) {
	for _, w := range kinds {
		want := api.Errno(6)
		if slices.Contains([]int{api.Set, api.Add, api.Replace, api.Cas, api.Gat, api.Gats, api.Touch}, w.kind) {
			want = 0
		}
		for _, exp := range []int64{-1, -2, -256, -2592000, math.MinInt32, -1 << 32, math.MinInt64, math.MinInt64 + 1, 1, 2592000, 2592001, math.MaxInt32, 1 << 32, math.MaxInt64} {
			c := right(w)
			c.Exp = exp
			checkIs(t, c, want)
		}
	}
}

// Promise 15.1: Values around the limit, also where the kind has none.
func TestValues(t *testing.T) {
	for _, w := range kinds {
		for _, n := range []int{0, 1, 1999, 2000, 2001, 2002, 2048, 4096, 1 << 16, 1<<16 + 1, 1<<16 + 2000, 1 << 20} {
			want := api.OK
			switch {
			case !w.stores && n > 0:
				want = api.ErrField
			case n > 2000:
				want = api.ErrLong
			}
			checkIs(t, with(right(w), 'V', uint64(n)), want)
		}
	}
}

// Promise 15.1: a Value is any bytes, and as long as its bytes are many.
func TestBytesOfValues(t *testing.T) {
	for _, w := range kinds {
		for _, c := range []struct {
			value string
			want  api.Errno
		}{
			{"\x00", 0}, {" ", 0}, {"\r\n", 0}, {"\xff\xfe", 0}, {strings.Repeat("\x00", 2000), 0}, {strings.Repeat("\xff", 2000), 0},
			{strings.Repeat("\u00e4", 1000), 0}, {strings.Repeat("\u20ac", 666) + "ab", 0}, {strings.Repeat("\U0001f600", 500), 0},
			{strings.Repeat("\x00", 2001), 7}, {strings.Repeat("\xff", 2001), 7}, {strings.Repeat("\u00e4", 1000) + "a", 7},
			{strings.Repeat("\u20ac", 667), 7}, {strings.Repeat("\U0001f600", 500) + "\x00", 7}, {strings.Repeat("\u00e4", 2000), 7},
		} {
			want := c.want
			if !w.stores {
				want = 6
			}
			m := right(w)
			m.Value = c.value
			checkIs(t, m, want)
		}
	}
}

// Promise 15.1: all fields that a kind has at once, and one more that it does not have.
func TestAllFields(t *testing.T) {
	for _, w := range kinds {
		all := right(w)
		all.Keys = keys(w.most)
		for _, sign := range w.fields {
			numbers := numbersOf(byte(sign))
			all = with(all, byte(sign), numbers[len(numbers)-1])
		}
		checkIs(t, all, api.OK)
		for _, sign := range "VFECDQ" {
			if !strings.ContainsRune(w.fields, sign) {
				checkIs(t, with(all, byte(sign), 1), api.ErrField)
			}
		}
	}
}

// Promise 15.1: which error comes first, where two things are wrong, or three.
func TestWrongTwice(t *testing.T) {
	long := strings.Repeat("v", 2001)
	k := []string{"k"}
	for _, c := range []struct {
		c    api.Command
		want api.Errno
	}{
		// no kind, and something else
		{api.Command{Kind: 0, Value: long}, 70},
		{api.Command{Kind: 16, Keys: k, Value: long}, 70},
		{api.Command{Kind: -1, Keys: []string{"a b"}}, 70},
		{api.Command{Kind: 16, Keys: keys(9), Value: long, Cas: 1}, 70},
		// no keys, or too many, or none that is one, and a Value that is too long
		{api.Command{Kind: api.Set, Value: long}, 6},
		{api.Command{Kind: api.Set, Keys: keys(2), Value: long}, 6},
		{api.Command{Kind: api.Cas, Keys: []string{""}, Value: long}, 6},
		{api.Command{Kind: api.Append, Keys: []string{"a b"}, Value: long}, 6},
		{api.Command{Kind: api.Prepend, Keys: []string{strings.Repeat("k", 33)}, Value: long}, 6},
		// a field that the kind does not have, and a Value that is too long
		{api.Command{Kind: api.Set, Keys: k, Cas: 1, Value: long}, 6},
		{api.Command{Kind: api.Add, Keys: k, Delta: 1, Value: long}, 6},
		{api.Command{Kind: api.Append, Keys: k, Flags: 1, Value: long}, 6},
		{api.Command{Kind: api.Prepend, Keys: k, Exp: 1, Value: long}, 6},
		{api.Command{Kind: api.Cas, Keys: k, Delta: 1, Value: long}, 6},
		// a Value that the kind does not have, and that is too long
		{api.Command{Kind: api.Get, Keys: k, Value: long}, 6},
		{api.Command{Kind: api.Incr, Keys: k, Value: long}, 6},
		{api.Command{Kind: api.Touch, Keys: k, Value: long}, 6},
		{api.Command{Kind: api.Flush, Value: long}, 6},
		// two that are both ErrField
		{api.Command{Kind: api.Get, Quiet: true}, 6},
		{api.Command{Kind: api.Get, Keys: append(keys(8), "a b")}, 6},
		{api.Command{Kind: api.Delete, Keys: []string{"", "k"}, Cas: 1}, 6},
		{api.Command{Kind: api.Flush, Keys: []string{""}, Delta: 1}, 6},
		// a Value that is too long alone
		{api.Command{Kind: api.Set, Keys: k, Flags: 5, Exp: -1, Value: long, Quiet: true}, 7},
		{api.Command{Kind: api.Cas, Keys: k, Cas: 5, Value: long}, 7},
		{api.Command{Kind: api.Append, Keys: k, Value: long, Quiet: true}, 7},
	} {
		checkIs(t, c.c, c.want)
	}
}

// manyCommands hands out commands of each kind, and of some numbers that are none, with Keys of all sorts and each choice of fields.
func manyCommands(yield func(api.Command) bool) {
	lists := [][]string{nil, {"k"}, {""}, {"a b"}, {strings.Repeat("k", 32)}, {strings.Repeat("k", 33)}, {"a", "a"}, {"a", "b"}, {"a", ""},
		{"", "a"}, keys(7), keys(8), keys(9), append(keys(7), "\x7f"), append([]string{"\x80"}, keys(7)...), append(keys(8), "")}
	for kind := -1; kind <= 17; kind++ {
		for _, list := range lists {
			for fields := range 1 << 6 {
				for _, n := range []uint64{1, 2000, 2001} {
					c := api.Command{Kind: kind, Keys: list}
					for i, sign := range []byte("VFECDQ") {
						if fields>>i&1 == 1 {
							c = with(c, sign, n)
						}
					}
					if !yield(c) {
						return
					}
				}
			}
		}
	}
}

// Promises 15.1, 15.2 and 15.3: commands of all sorts, held against the document's words; a right one has a stripe at least.
func TestManyCommands(t *testing.T) {
	found := map[api.Errno]int{}
	for c := range manyCommands {
		e := Check(c)
		found[e]++
		if want := wantCheck(c); e != want {
			t.Fatalf("Check(%+v), a Value of %d bytes: error %d, not %d", told(c), len(c.Value), e, want)
		}
		list := Stripes(c)
		if want := wantStripes(c); !slices.Equal(list, want) {
			t.Fatalf("Stripes(%+v): %v, not %v", told(c), list, want)
		}
		if e == api.OK && len(list) == 0 {
			t.Fatalf("%+v is right, and has no stripe", told(c))
		}
	}
	if len(found) != 4 || found[0] == 0 || found[6] == 0 || found[7] == 0 || found[70] == 0 {
		t.Errorf("errors %v", found)
	}
}

// Promise 15.2: each kind's name, and each name's kind.
func TestNames(t *testing.T) {
	for _, w := range kinds {
		if got := Name(w.kind); got != w.name {
			t.Errorf("Name(%d): %q, not %q", w.kind, got, w.name)
		}
		if got := Kind(w.name); got != w.kind {
			t.Errorf("Kind(%q): %d, not %d", w.name, got, w.kind)
		}
	}
	for i, kind := range []int{api.Get, api.Gets, api.Gat, api.Gats, api.Set, api.Add, api.Replace, api.Append, api.Prepend, api.Cas,
		api.Delete, api.Incr, api.Decr, api.Touch, api.Flush} {
		if kind != kinds[i].kind {
			t.Errorf("the kind of %s is %d", kinds[i].name, kind)
		}
	}
}

// Promise 15.2: Name, Stores and Shows of a number that is no kind.
func TestNumbersThatAreNoKind(t *testing.T) {
	list := slices.Clone(noKinds)
	for kind := 16; kind < 1100; kind++ {
		list = append(list, kind, 15-kind)
	}
	for n := range 63 {
		p := 1 << n
		list = append(list, -p, -p-1, -p+1)
		if p > 15 {
			list = append(list, p, p+1, p+5, p+10, p+15)
		}
	}
	for _, kind := range list {
		if kind >= 1 && kind <= 15 {
			t.Fatalf("the test is wrong: %d is a kind", kind)
		}
		if name := Name(kind); name != "" {
			t.Errorf("Name(%d): %q", kind, name)
		}
		if Stores(kind) {
			t.Errorf("Stores(%d)", kind)
		}
		if Shows(kind) {
			t.Errorf("Shows(%d)", kind)
		}
	}
}

// Promise 15.2: which kinds store, and which show.
func TestStoresAndShows(t *testing.T) {
	for _, w := range kinds {
		if got := Stores(w.kind); got != w.stores {
			t.Errorf("Stores(%d): %t", w.kind, got)
		}
		if got := Shows(w.kind); got != w.shows {
			t.Errorf("Shows(%d): %t", w.kind, got)
		}
	}
}

// noNames are texts that are no kind's name, most of them a name with something changed.
func noNames() []string {
	list := []string{"", " ", "\x00", "none", "kind", "flush", "flush all", "flush-all", "flushall", "flush_al", "flush_all 0", "touch\r\n", "0", "1", "5", "15", "quit", "stats", "version",
		"getss", "gett", "gatss", "gest", "sets", "adds", "increment", "decrement", "gets gets", "get k", "mg", "ms", "\u0261et", "g\u00e9t", strings.Repeat("get", 1000), strings.Repeat("x", 1<<16)}
	for _, w := range kinds {
		n := w.name
		list = append(list, strings.ToUpper(n), strings.ToUpper(n[:1])+n[1:], n[:len(n)-1]+strings.ToUpper(n[len(n)-1:]),
			" "+n, n+" ", " "+n+" ", "\t"+n, n+"\t", n+"\r", n+"\n", n+"\r\n", n+"\x00", "\x00"+n, n+n, n+"x", "x"+n, n+"_all", n+n[len(n)-1:])
		for i := range n {
			list = append(list, n[:i], n[i+1:], n[:i]+" "+n[i:], n[:i]+n[i+1:], n[:i]+"\x00"+n[i+1:], n[:i]+string(rune(n[i]^0x20))+n[i+1:], n[:i]+string([]byte{n[i] | 0x80})+n[i+1:])
			for b := byte('a'); b <= 'z'; b++ {
				list = append(list, n[:i]+string(rune(b))+n[i+1:], n[:i]+string(rune(b))+n[i:])
			}
		}
	}
	return slices.DeleteFunc(list, func(s string) bool {
		return slices.ContainsFunc(kinds, func(w kindWords) bool { return w.name == s })
	})
}

// Promise 15.2: texts that are no name: in other letters, with a blank, cut short, empty, longer, and with one byte another.
func TestTextsThatAreNoName(t *testing.T) {
	for _, s := range noNames() {
		if kind := Kind(s); kind != 0 {
			t.Errorf("Kind(%q): %d", s, kind)
		}
	}
}

// keysOfStripe are so many keys that have a stripe, by Go's library.
func keysOfStripe(stripe, n int) []string {
	var list []string
	for i := 0; len(list) < n; i++ {
		key := "k" + strconv.Itoa(i)
		if stripeOf(key) == stripe {
			list = append(list, key)
		}
	}
	return list
}

// Promise 15.2: Stripes of one key, of two with one stripe, of some whose stripes fall, and of those that come again.
func TestStripes(t *testing.T) {
	var by [4][]string
	for stripe := range by {
		by[stripe] = keysOfStripe(stripe, 3)
		key := by[stripe]
		checkStripes(t, api.Command{Kind: api.Set, Keys: key[:1]}, stripe)
		checkStripes(t, api.Command{Kind: api.Get, Keys: key[:1]}, stripe)
		checkStripes(t, api.Command{Kind: api.Get, Keys: key[:2]}, stripe)
		checkStripes(t, api.Command{Kind: api.Get, Keys: key[:3]}, stripe)
		checkStripes(t, api.Command{Kind: api.Gets, Keys: []string{key[0], key[0], key[0]}}, stripe)
	}
	for a := range by {
		for b := range a {
			checkStripes(t, api.Command{Kind: api.Get, Keys: []string{by[a][0], by[b][0]}}, b, a)
			checkStripes(t, api.Command{Kind: api.Get, Keys: []string{by[b][0], by[a][0]}}, b, a)
			checkStripes(t, api.Command{Kind: api.Gat, Keys: []string{by[a][0], by[b][0], by[a][1], by[b][1], by[a][0]}}, b, a)
		}
	}
	falling := []string{by[3][0], by[2][0], by[1][0], by[0][0]}
	checkStripes(t, api.Command{Kind: api.Get, Keys: falling}, 0, 1, 2, 3)
	checkStripes(t, api.Command{Kind: api.Gats, Keys: append(slices.Clone(falling), falling...)}, 0, 1, 2, 3)
	checkStripes(t, api.Command{Kind: api.Get, Keys: []string{by[3][0], by[0][0], by[2][0]}}, 0, 2, 3)
}

// Promise 15.2: Stripes of all ways in which up to four keys have four stripes, of each kind.
func TestStripesOfEachOrder(t *testing.T) {
	var by [4][]string
	for stripe := range by {
		by[stripe] = keysOfStripe(stripe, 4)
	}
	for n := range 5 {
		for way := range 1 << (2 * n) {
			set := uint(0)
			list := make([]string, n)
			for i := range list {
				stripe := way >> (2 * i) & 3
				list[i] = by[stripe][i]
				set |= 1 << stripe
			}
			for _, w := range kinds {
				got := Stripes(api.Command{Kind: w.kind, Keys: list})
				if want := wantStripes(api.Command{Kind: w.kind, Keys: list}); !slices.Equal(got, want) {
					t.Fatalf("Stripes of a %s of %q: %v, not %v", w.name, list, got, want)
				}
				if w.kind != api.Flush && len(got) != bits.OnesCount(set) {
					t.Fatalf("Stripes of a %s of %q: %v", w.name, list, got)
				}
			}
		}
	}
}

// Promise 15.2: Stripes of no Keys, of a Flush whatever it has, and of what is not right.
func TestStripesOfWrongCommands(t *testing.T) {
	for _, kind := range append([]int{1, 2, 3, 4, 5, 6, 7, 8, 9, 10, 11, 12, 13, 14}, noKinds...) {
		checkStripes(t, api.Command{Kind: kind})
		checkStripes(t, api.Command{Kind: kind, Keys: []string{}})
		checkStripes(t, api.Command{Kind: kind, Keys: []string{"a b", "k"}[:0]})
		for _, text := range noKeyTexts() {
			checkStripes(t, api.Command{Kind: kind, Keys: []string{text}}, stripeOf(text))
		}
		checkStripes(t, api.Command{Kind: kind, Keys: keysOfStripe(2, 40)}, 2)
		checkStripes(t, api.Command{Kind: kind, Keys: append(keysOfStripe(3, 40), keysOfStripe(1, 1)...)}, 1, 3)
	}
	for _, c := range []api.Command{{}, {Quiet: true}, {Keys: []string{"k"}}, {Keys: []string{""}}, {Keys: keys(9)}, {Keys: keysOfStripe(2, 3)},
		{Value: strings.Repeat("v", 2001)}, {Exp: -1, Delta: 5}} {
		c.Kind = api.Flush
		checkStripes(t, c, 0, 1, 2, 3)
	}
}

// Promise 15.2: the other fields of a command do not matter to its stripes.
func TestStripesOfOtherFields(t *testing.T) {
	for stripe := range 4 {
		list := keysOfStripe(stripe, 1)
		for _, w := range kinds {
			c := api.Command{Kind: w.kind, Keys: list, Flags: 5, Exp: -5, Value: "v", Cas: 1 << 40, Delta: 1 << 41, Quiet: true}
			want := []int{stripe}
			if w.kind == api.Flush {
				want = []int{0, 1, 2, 3}
			}
			checkStripes(t, c, want...)
		}
	}
}

// Promise 15.3: Name and Kind are each other's way back, and no two kinds have one name.
func TestWayBack(t *testing.T) {
	seen := map[string]int{}
	for kind := 1; kind <= 15; kind++ {
		name := Name(kind)
		if name == "" || seen[name] != 0 {
			t.Errorf("Name(%d): %q, as is that of %d", kind, name, seen[name])
		}
		seen[name] = kind
		if got := Kind(name); got != kind {
			t.Errorf("Kind(Name(%d)): %d", kind, got)
		}
	}
	for _, s := range append(noNames(), slices.Collect(func(yield func(string) bool) {
		for _, w := range kinds {
			if !yield(w.name) {
				return
			}
		}
	})...) {
		if kind := Kind(s); kind != 0 && Name(kind) != s {
			t.Errorf("Name(Kind(%q)): %q", s, Name(kind))
		}
	}
	for _, kind := range noKinds {
		if got := Kind(Name(kind)); got != 0 {
			t.Errorf("Kind(Name(%d)): %d", kind, got)
		}
	}
}

// Promise 15.3: a right command has a stripe at least, one for each key at most, and each of them is its keys'.
func TestRightCommandsHaveStripes(t *testing.T) {
	for _, w := range kinds {
		for n := w.least; n <= w.most; n++ {
			c := api.Command{Kind: w.kind, Keys: keys(n)}
			list := Stripes(c)
			if Check(c) != api.OK || len(list) == 0 || !slices.IsSorted(list) || w.kind != api.Flush && len(list) > n {
				t.Errorf("Check(%+v): error %d, stripes %v", c, Check(c), list)
			}
			for i, stripe := range list {
				if stripe < 0 || stripe > 3 || i > 0 && list[i-1] == stripe {
					t.Errorf("Stripes(%+v): %v", c, list)
				}
			}
		}
	}
}

// Rule R4: what is handed in is not changed, also behind the end of the Keys; what is handed out is new memory.
func TestNothingIsShared(t *testing.T) {
	for _, w := range kinds {
		room := []string{keysOfStripe(3, 1)[0], keysOfStripe(0, 1)[0], "k", "behind", ""}
		was := slices.Clone(room)
		c := api.Command{Kind: w.kind, Keys: room[:3]}
		Check(c)
		first, second := Stripes(c), Stripes(c)
		want := slices.Clone(second)
		for i := range first {
			first[i] = -1
		}
		first = append(first, 9, 9, 9, 9)
		if third := Stripes(c); !slices.Equal(second, want) || !slices.Equal(third, want) || len(first) < 5 {
			t.Errorf("Stripes of a %s: %v, and %v, not %v", w.name, second, third, want)
		}
		if !slices.Equal(room, was) {
			t.Errorf("the Keys of a %s are %q, not %q", w.name, room, was)
		}
	}
}

// Rule R6: lists that are longer than any limit are told of, too.
func TestLongLists(t *testing.T) {
	list := slices.Repeat(append(keysOfStripe(3, 1), keysOfStripe(1, 1)...), 1<<18)
	for _, w := range kinds {
		c := api.Command{Kind: w.kind, Keys: list}
		checkIs(t, c, api.ErrField)
		if got := Stripes(c); !slices.Equal(got, wantStripes(c)) {
			t.Errorf("Stripes of a %s with %d keys: %v", w.name, len(list), got)
		}
	}
	long := strings.Repeat("k", 1<<24)
	checkIs(t, api.Command{Kind: api.Get, Keys: []string{long}}, api.ErrField)
	if got := Stripes(api.Command{Kind: api.Get, Keys: []string{long}}); !slices.Equal(got, []int{stripeOf(long)}) {
		t.Errorf("Stripes of a text of 2^24 bytes: %v", got)
	}
}

// FuzzCommand holds Check and Stripes against the document's words, at whatever a command may be.
func FuzzCommand(f *testing.F) {
	f.Add(5, "k", "", "v", uint32(5), int64(-1), uint64(0), uint64(0), true)
	f.Add(1, "a\nb", "\n", "", uint32(0), int64(0), uint64(0), uint64(0), false)
	f.Add(15, "", "", "", uint32(0), int64(0), uint64(0), uint64(0), true)
	f.Add(16, "", "x", "y", uint32(1), int64(1), uint64(1), uint64(1), true)
	f.Fuzz(func(t *testing.T, kind int, texts, more, value string, flags uint32, exp int64, cas, delta uint64, quiet bool) {
		c := api.Command{Kind: kind, Flags: flags, Exp: exp, Value: value, Cas: cas, Delta: delta, Quiet: quiet}
		if texts != "" {
			c.Keys = append(strings.Split(texts, "\n"), more)
		}
		e := Check(c)
		if want := wantCheck(c); e != want {
			t.Errorf("Check(%+v): error %d, not %d", c, e, want)
		}
		if got, want := Stripes(c), wantStripes(c); !slices.Equal(got, want) || e == api.OK && len(got) == 0 {
			t.Errorf("Stripes(%+v): %v, not %v", c, got, want)
		}
		if k := Kind(texts); Name(k) != texts && k != 0 || wordsKind(texts) != k {
			t.Errorf("Kind(%q): %d", texts, k)
		}
	})
}

// wordsKind is Kind by the document's words.
func wordsKind(name string) int {
	for _, w := range kinds {
		if w.name == name {
			return w.kind
		}
	}
	return 0
}
