package line

import (
	"math"
	"math/big"
	"reflect"
	"slices"
	"strconv"
	"strings"
	"testing"

	"tallboy/api"
	"tallboy/verb"
)

// lineWords is a line of the document's for each kind: what stands behind its name (K a KEY, R a KEY and more, F FLAGS, E EXP, B BYTES, C CAS, D DELTA),
// and whether the last word noreply may be there.
type lineWords struct {
	kind   int
	name   string
	behind string
	quiet  bool
}

// lines are all that there are, by the document's words.
var lines = []lineWords{
	{1, "get", "R", false},
	{2, "gets", "R", false},
	{3, "gat", "ER", false},
	{4, "gats", "ER", false},
	{5, "set", "KFEB", true},
	{6, "add", "KFEB", true},
	{7, "replace", "KFEB", true},
	{8, "append", "KFEB", true},
	{9, "prepend", "KFEB", true},
	{10, "cas", "KFEBC", true},
	{11, "delete", "K", true},
	{12, "incr", "KD", true},
	{13, "decr", "KD", true},
	{14, "touch", "KE", true},
	{15, "flush_all", "", true},
}

// wantWords is Words by the document's words: of what stands between two blanks next to one another, all that is not empty.
func wantWords(s string) []string {
	return slices.DeleteFunc(strings.Split(s, " "), func(w string) bool { return w == "" })
}

// wantNumber is digits.Parse by the document's words; false: it is none.
func wantNumber(s string) (uint64, bool) {
	if len(s) < 1 || len(s) > 20 || strings.Trim(s, "0123456789") != "" {
		return 0, false
	}
	n, _ := new(big.Int).SetString(s, 10)
	return n.Uint64(), n.IsUint64()
}

// wantSigned is digits.Signed by the document's words; false: it is none.
func wantSigned(s string) (int64, bool) {
	rest, below := strings.CutPrefix(s, "-")
	if _, ok := wantNumber(rest); !ok {
		return 0, false
	}
	n, _ := new(big.Int).SetString(rest, 10)
	if below {
		n.Neg(n)
	}
	return n.Int64(), n.IsInt64()
}

// isKey is fnv.Key by the document's words.
func isKey(s string) bool {
	return len(s) >= 1 && len(s) <= 32 && !slices.ContainsFunc([]byte(s), func(b byte) bool { return b < 33 || b > 126 })
}

// wordsAre lays words out by the signs of a line; false: they are not as many.
func wordsAre(l lineWords, words []string) (by map[rune]string, keys []string, quiet, ok bool) {
	signs := l.behind
	if l.quiet && len(words) == len(signs)+1 && words[len(words)-1] == "noreply" {
		quiet, words = true, words[:len(words)-1]
	}
	if n := len(words) - len(signs); n < 0 || n > 0 && !strings.HasSuffix(signs, "R") {
		return nil, nil, false, false
	}
	by = map[rune]string{}
	for i, sign := range signs {
		switch sign {
		case 'R':
			keys = words[i:]
		case 'K':
			keys = words[i : i+1]
		default:
			by[sign] = words[i]
		}
	}
	return by, keys, quiet, true
}

// wantParse is Parse by the document's words.
func wantParse(s string) Parsed {
	if len(s) > 160 {
		return Parsed{Verdict: 9}
	}
	words := wantWords(s)
	if len(words) == 0 {
		return Parsed{Verdict: 3}
	}
	at := slices.IndexFunc(lines, func(l lineWords) bool { return l.name == words[0] })
	if at < 0 {
		return Parsed{Verdict: 3}
	}
	by, keys, quiet, ok := wordsAre(lines[at], words[1:])
	switch {
	case !ok:
		return Parsed{Verdict: 3}
	case strings.Contains(lines[at].behind, "B"):
		return wantStoring(lines[at], by, keys[0], quiet)
	}
	return wantOther(lines[at], by, keys, quiet)
}

// wantStoring is Parse by the document's words, of those that store.
func wantStoring(l lineWords, by map[rune]string, key string, quiet bool) Parsed {
	bytes, ok := wantSigned(by['B'])
	if !ok || bytes < 0 {
		return Parsed{Verdict: 5}
	}
	swallow := 0
	if bytes < 1<<31 {
		swallow = int(bytes + 2)
	}
	flags, okFlags := wantNumber(by['F'])
	cas, okCas := wantNumber(by['C'])
	exp, okExp := wantSigned(by['E'])
	c := api.Command{Kind: l.kind, Keys: []string{key}, Quiet: quiet}
	switch {
	case !isKey(key), !okFlags, flags >= 1<<32, strings.Contains(l.behind, "C") && !okCas:
		return Parsed{Verdict: 4, Swallow: swallow}
	case !okExp:
		return Parsed{Verdict: 7, Swallow: swallow}
	case bytes > 2000:
		return Parsed{Verdict: 8, C: c, Swallow: swallow}
	}
	if l.name != "append" && l.name != "prepend" {
		c.Flags, c.Exp = uint32(flags), exp
	}
	c.Cas = cas
	return Parsed{Verdict: 2, C: c, Bytes: int(bytes)}
}

// wantOther is Parse by the document's words, of those that do not store.
func wantOther(l lineWords, by map[rune]string, keys []string, quiet bool) Parsed {
	exp, okExp := wantSigned(by['E'])
	delta, okDelta := wantNumber(by['D'])
	switch {
	case len(keys) > 8, slices.ContainsFunc(keys, func(k string) bool { return !isKey(k) }):
		return Parsed{Verdict: 4}
	case strings.Contains(l.behind, "E") && !okExp:
		return Parsed{Verdict: 7}
	case strings.Contains(l.behind, "D") && !okDelta:
		return Parsed{Verdict: 6}
	}
	return Parsed{Verdict: 1, C: api.Command{Kind: l.kind, Keys: keys, Exp: exp, Delta: delta, Quiet: quiet}}
}

// wantWrite is Write by the document's words.
func wantWrite(c api.Command) (string, api.Errno) {
	if e := verb.Check(c); e != 0 {
		return "", e
	}
	l := lines[c.Kind-1]
	s := l.name
	for _, sign := range l.behind {
		s += " " + map[rune]string{
			'K': strings.Join(c.Keys, " "), 'R': strings.Join(c.Keys, " "), 'F': strconv.FormatUint(uint64(c.Flags), 10), 'E': strconv.FormatInt(c.Exp, 10),
			'B': strconv.Itoa(len(c.Value)), 'C': strconv.FormatUint(c.Cas, 10), 'D': strconv.FormatUint(c.Delta, 10),
		}[sign]
	}
	if c.Quiet {
		s += " noreply"
	}
	if len(s) > 160 {
		return "", 7
	}
	return s, 0
}

// same tells whether two answers are the same, a list without keys being as good as none.
func same(a, b Parsed) bool {
	if len(a.C.Keys) == 0 && len(b.C.Keys) == 0 {
		a.C.Keys, b.C.Keys = nil, nil
	}
	return reflect.DeepEqual(a, b)
}

// parsed holds Parse against the document's words, and hands its answer out.
func parsed(t *testing.T, s string) Parsed {
	t.Helper()
	p := Parse(s)
	if want := wantParse(s); !same(p, want) {
		t.Errorf("Parse(%.200q): %+v, not %+v", s, p, want)
	}
	return p
}

// parseIs holds Parse against an answer that is written out, and that against the document's words.
func parseIs(t *testing.T, s string, want Parsed) {
	t.Helper()
	if p := Parse(s); !same(p, want) {
		t.Errorf("Parse(%.200q): %+v, not %+v", s, p, want)
	}
	if p := wantParse(s); !same(p, want) {
		t.Errorf("the test is wrong: Parse(%.200q): %+v, not %+v", s, p, want)
	}
}

// alone is a verdict with nothing beside it.
func alone(verdict int) Parsed { return Parsed{Verdict: verdict} }

// swallows is a verdict with bytes that are to be swallowed.
func swallows(verdict, n int) Parsed { return Parsed{Verdict: verdict, Swallow: n} }

// ready is a command that is whole.
func ready(c api.Command) Parsed { return Parsed{Verdict: 1, C: c} }

// wants is a command that waits for its bytes.
func wants(c api.Command, n int) Parsed { return Parsed{Verdict: 2, C: c, Bytes: n} }

// one is a list of one key.
func one(key string) []string { return []string{key} }

// keys are so many keys, each of so many bytes.
func keys(n, size int) []string {
	list := make([]string, n)
	for i := range list {
		list[i] = strings.Repeat(string(rune('a'+i%26)), size)
	}
	return list
}

// rightWord is a word that a sign's word may be.
func rightWord(sign rune) string {
	return map[rune]string{'K': "k", 'R': "k", 'F': "5", 'E': "-6", 'B': "3", 'C': "7", 'D': "8"}[sign]
}

// rightLine is a line of a kind's, in which one sign's word is another one.
func rightLine(l lineWords, sign rune, word string) string {
	s := l.name
	for _, x := range l.behind {
		if x == sign {
			s += " " + word
		} else {
			s += " " + rightWord(x)
		}
	}
	return s
}

// noreplies are the ends that a line may have.
func noreplies(l lineWords) []string {
	if l.quiet {
		return []string{"", " noreply"}
	}
	return []string{""}
}

// Promise 17.1: the chapter's examples.
func TestExamples(t *testing.T) {
	parseIs(t, "set k 5 0 3 noreply", wants(api.Command{Kind: api.Set, Keys: one("k"), Flags: 5, Quiet: true}, 3))
	parseIs(t, "set k 5 0 -1", alone(BadChunk))
	parseIs(t, "incr k x", alone(BadDelta))
	parseIs(t, "get", alone(BadCommand))
	parseIs(t, "get a b", ready(api.Command{Kind: api.Get, Keys: []string{"a", "b"}}))
}

// Promise 17.1: the verdicts are the numbers that the document names.
func TestVerdicts(t *testing.T) {
	got := []int{Ready, Wants, BadCommand, BadLine, BadChunk, BadDelta, BadExp, TooBig, TooLong}
	if !slices.Equal(got, []int{1, 2, 3, 4, 5, 6, 7, 8, 9}) {
		t.Errorf("the verdicts are %v", got)
	}
}

// Promise 17.1: words, with one blank or more between, ahead, and behind.
func TestWords(t *testing.T) {
	for _, c := range []struct {
		s    string
		want []string
	}{
		{"", nil}, {" ", nil}, {"  ", nil}, {strings.Repeat(" ", 1000), nil},
		{"a", one("a")}, {" a", one("a")}, {"a ", one("a")}, {"   a   ", one("a")},
		{"a b", []string{"a", "b"}}, {"a  b", []string{"a", "b"}}, {"  a    b  ", []string{"a", "b"}}, {"ab cd", []string{"ab", "cd"}},
		{"set k 5 0 3 noreply", []string{"set", "k", "5", "0", "3", "noreply"}}, {"b a b", []string{"b", "a", "b"}}, {"a a", []string{"a", "a"}},
		// what seems empty beside a blank is no blank
		{"a\tb", one("a\tb")}, {"\t", one("\t")}, {"\r\n", one("\r\n")}, {"a\r", one("a\r")}, {"a\nb c\x00", []string{"a\nb", "c\x00"}}, {"\x00", one("\x00")},
		{"\v\f", one("\v\f")}, {"a\u00a0b", one("a\u00a0b")}, {"a\u0085b", one("a\u0085b")}, {"\u2003", one("\u2003")}, {"a\u3000b \ufeff", []string{"a\u3000b", "\ufeff"}},
		// nor are bytes that are no letters, or that begin one, or end one
		{"\xff \xfe", []string{"\xff", "\xfe"}}, {"\xc2 \xa0", []string{"\xc2", "\xa0"}}, {"\x20\xe2\x80\x20\x83", []string{"\xe2\x80", "\x83"}}, {"\xa0", one("\xa0")},
		{"a\xc0\xa0b", one("a\xc0\xa0b")}, {"\xf0 \x9f \x98 \x80", []string{"\xf0", "\x9f", "\x98", "\x80"}}, {"\u0120 \u2020", []string{"\u0120", "\u2020"}},
	} {
		if got := Words(c.s); !slices.Equal(got, c.want) {
			t.Errorf("Words(%.100q): %q, not %q", c.s, got, c.want)
		}
		if got := wantWords(c.s); !slices.Equal(got, c.want) {
			t.Errorf("the test is wrong: Words(%.100q): %q, not %q", c.s, got, c.want)
		}
	}
}

// Promise 17.1: words of texts that are longer than a line, and of more words than any line has.
func TestWordsOfLongTexts(t *testing.T) {
	long := strings.Repeat("x", 1<<16)
	for _, s := range []string{long, " " + long + "  " + long + " ", strings.Repeat("a ", 10000), strings.Repeat(" b", 33), strings.Repeat("ab  cd   ", 5000), strings.Repeat("\u20ac ", 3000)} {
		if got, want := Words(s), wantWords(s); !slices.Equal(got, want) {
			t.Errorf("Words(%.40q..): %d words, not %d", s, len(got), len(want))
		}
	}
}

// Promise 17.1: of all bytes the blank alone cuts, at each place.
func TestWordsByteByByte(t *testing.T) {
	for b := range 256 {
		x := string([]byte{byte(b)})
		for _, s := range []string{x, "a" + x, x + "a", "a" + x + "b", x + x, "a" + x + x + "b", " " + x + " ", "a " + x + " b"} {
			want := one(s)
			if b == 32 || strings.Contains(s, " ") {
				want = wantWords(s)
			}
			if got := Words(s); !slices.Equal(got, want) {
				t.Errorf("Words(%q): %q, not %q", s, got, want)
			}
		}
	}
}

// Promise 17.1: a line of each kind, with all that is told of it.
func TestEachLine(t *testing.T) {
	for _, c := range []struct {
		s    string
		want Parsed
	}{
		{"get k", ready(api.Command{Kind: 1, Keys: one("k")})},
		{"gets a b c", ready(api.Command{Kind: 2, Keys: []string{"a", "b", "c"}})},
		{"gat 100 k", ready(api.Command{Kind: 3, Keys: one("k"), Exp: 100})},
		{"gats -1 b a", ready(api.Command{Kind: 4, Keys: []string{"b", "a"}, Exp: -1})},
		{"set key 1 2 3", wants(api.Command{Kind: 5, Keys: one("key"), Flags: 1, Exp: 2}, 3)},
		{"add key 4 -5 6", wants(api.Command{Kind: 6, Keys: one("key"), Flags: 4, Exp: -5}, 6)},
		{"replace key 7 8 9", wants(api.Command{Kind: 7, Keys: one("key"), Flags: 7, Exp: 8}, 9)},
		{"append key 1 2 3", wants(api.Command{Kind: 8, Keys: one("key")}, 3)},
		{"prepend key 4 -5 6", wants(api.Command{Kind: 9, Keys: one("key")}, 6)},
		{"cas key 1 -2 3 4", wants(api.Command{Kind: 10, Keys: one("key"), Flags: 1, Exp: -2, Cas: 4}, 3)},
		{"delete key", ready(api.Command{Kind: 11, Keys: one("key")})},
		{"incr key 5", ready(api.Command{Kind: 12, Keys: one("key"), Delta: 5})},
		{"decr key 6", ready(api.Command{Kind: 13, Keys: one("key"), Delta: 6})},
		{"touch key 7", ready(api.Command{Kind: 14, Keys: one("key"), Exp: 7})},
		{"flush_all", ready(api.Command{Kind: 15})},
	} {
		parseIs(t, c.s, c.want)
		quiet := c.want
		quiet.C.Quiet = true
		if strings.HasPrefix(c.s, "g") {
			quiet.C.Quiet = false
			quiet.C.Keys = append(slices.Clone(c.want.C.Keys), "noreply")
		}
		parseIs(t, c.s+" noreply", quiet)
	}
}

// Promise 17.1: a line of 160 bytes is read, one of 161 is too long, whatever it says.
func TestLongLines(t *testing.T) {
	for _, s := range []string{"", "x", "get", "get k", "gets a b c", "gat x a", "set k 5 0 3", "set k 5 0 3 noreply", "set k 0 0 -1", "set k 0 0 9999", "set k x 0 9", "set k 0 x 9", "cas k 1 2 3 4 noreply",
		"incr k x", "incr k 5", "touch k", "flush_all", "delete k noreply", "\xff", "\u20ac"} {
		short := parsed(t, s)
		for _, n := range []int{159, 160, 161, 162, 256 + 5, 256 + 160, 320, 1 << 16, 1<<16 + 5} {
			blanks := strings.Repeat(" ", n-len(s))
			want := short
			if n > 160 {
				want = alone(TooLong)
			}
			for _, long := range []string{s + blanks, blanks + s, blanks[:len(blanks)/2] + s + blanks[len(blanks)/2:], strings.Replace(s, " ", blanks+" ", 1)} {
				if len(long) == n {
					parseIs(t, long, want)
				}
			}
		}
	}
}

// Promise 17.1: a line is as long as its bytes are many, whatever they are.
func TestBytesOfLongLines(t *testing.T) {
	for _, x := range []string{"x", "\x00", "\n", "\xff", "\u00e4", "\u20ac", "\U0001f600", " x", "get "} {
		for _, n := range []int{158, 159, 160, 161, 162, 200, 640} {
			s := strings.Repeat(x, n/len(x))
			want := BadCommand
			switch {
			case len(s) > 160:
				want = TooLong
			case x == "get ":
				want = BadLine // some 40 keys
			}
			if p := parsed(t, s); p.Verdict != want {
				t.Errorf("Parse of %d bytes of %q: %+v", len(s), x, p)
			}
		}
	}
	seven := "get " + strings.Join(keys(7, 18), " ") + " " // 137 bytes
	parseIs(t, seven+strings.Repeat("z", 23), ready(api.Command{Kind: api.Get, Keys: append(keys(7, 18), strings.Repeat("z", 23))}))
	parseIs(t, seven+strings.Repeat("z", 24), alone(TooLong))
}

// Promise 17.1: no word, and a first word that is no kind's name.
func TestNoCommand(t *testing.T) {
	list := []string{"", " ", "   ", strings.Repeat(" ", 160), "x", "k", "noreply", "noreply get k", "quit", "version", "stats", "mg k", "flush", "flush_all_", "flush all", "verbosity 1",
		"\x00", "\r", "\t", "\tget k", "get\tk", "get\x00 k", "\x00get k", "get, k", "get:k", "-", "0", "1 k", "5 k 0 0 1", "15", "\xff", "\ufeffget k", "\u00a0get k", "ge t k", "s et k 0 0 1"}
	for _, l := range lines {
		n := l.name
		for _, first := range []string{strings.ToUpper(n), strings.ToUpper(n[:1]) + n[1:], n[:len(n)-1], n[1:], n + n, n + "x", "x" + n, n + "\x00", n + "\r", n + "_", "\"" + n + "\"", n[:1]} {
			if !slices.ContainsFunc(lines, func(l lineWords) bool { return l.name == first }) {
				list = append(list, first+strings.TrimPrefix(rightLine(l, 0, ""), n), first)
			}
		}
	}
	for _, s := range list {
		parseIs(t, s, alone(BadCommand))
	}
}

// Promise 17.1: each kind with each number of words, its last one noreply, or not, or nearly.
func TestHowManyWords(t *testing.T) {
	for _, l := range lines {
		need := len(l.behind) + 1
		for n := 1; n <= 12; n++ {
			for _, fill := range []string{"1", "k", "noreply"} {
				for _, last := range []string{"1", "k", "noreply", "NOREPLY", "noreply\r", "norepl", "noreplyy", "Noreply"} {
					words := []string{l.name}
					for len(words) < n {
						words = append(words, fill)
					}
					if n > 1 {
						words[n-1] = last
					}
					as := n == need || n > need && strings.HasSuffix(l.behind, "R") || n == need+1 && l.quiet && last == "noreply"
					if p := parsed(t, strings.Join(words, " ")); (p.Verdict != BadCommand) != as {
						t.Errorf("Parse(%q): %+v", words, p)
					}
				}
			}
		}
	}
}

// Promise 17.1: the word noreply is one where it is a word more, and what else stands there where it is not.
func TestNoreply(t *testing.T) {
	for _, c := range []struct {
		s    string
		want Parsed
	}{
		{"delete noreply", ready(api.Command{Kind: api.Delete, Keys: one("noreply")})},
		{"delete noreply noreply", ready(api.Command{Kind: api.Delete, Keys: one("noreply"), Quiet: true})},
		{"delete noreply noreply noreply", alone(BadCommand)},
		{"delete noreply k", alone(BadCommand)},
		{"get noreply", ready(api.Command{Kind: api.Get, Keys: one("noreply")})},
		{"gets k noreply", ready(api.Command{Kind: api.Gets, Keys: []string{"k", "noreply"}})},
		{"gat 0 noreply", ready(api.Command{Kind: api.Gat, Keys: one("noreply")})},
		{"gat noreply k", alone(BadExp)},
		{"gats 5 noreply noreply", ready(api.Command{Kind: api.Gats, Keys: []string{"noreply", "noreply"}, Exp: 5})},
		{"gat noreply", alone(BadCommand)},
		{"flush_all noreply", ready(api.Command{Kind: api.Flush, Quiet: true})},
		{"flush_all noreply noreply", alone(BadCommand)},
		{"flush_all 0", alone(BadCommand)},
		{"flush_all 0 noreply", alone(BadCommand)},
		{"touch noreply", alone(BadCommand)},
		{"touch k noreply", alone(BadExp)},
		{"touch noreply 5", ready(api.Command{Kind: api.Touch, Keys: one("noreply"), Exp: 5})},
		{"touch k 5 noreply", ready(api.Command{Kind: api.Touch, Keys: one("k"), Exp: 5, Quiet: true})},
		{"incr noreply noreply", alone(BadDelta)},
		{"decr k noreply", alone(BadDelta)},
		{"incr noreply 5 noreply", ready(api.Command{Kind: api.Incr, Keys: one("noreply"), Delta: 5, Quiet: true})},
		{"decr k 5 6", alone(BadCommand)},
		{"set k 0 0 noreply", alone(BadChunk)},
		{"set noreply 0 0 3", wants(api.Command{Kind: api.Set, Keys: one("noreply")}, 3)},
		{"set k 0 0 3 noreply noreply", alone(BadCommand)},
		{"set k 0 0 noreply 3", alone(BadCommand)},
		{"set noreply k 0 0 3", alone(BadCommand)},
		{"noreply set k 0 0 3", alone(BadCommand)},
		{"set k 0 0 3 4", alone(BadCommand)},
		{"cas k 0 0 3 noreply", swallows(BadLine, 5)},
		{"cas k 0 0 noreply 4", alone(BadChunk)},
		{"cas k 0 0 3 4 5", alone(BadCommand)},
		{"cas k 0 0 3 4 noreply", wants(api.Command{Kind: api.Cas, Keys: one("k"), Cas: 4, Quiet: true}, 3)},
	} {
		parseIs(t, c.s, c.want)
	}
}

// numbers are words that are numbers, or nearly: around each end that a number of a line has, with noughts ahead, with signs, and with other signs.
func numbers() []string {
	list := []string{"x", "-", "+", "+1", "--1", "-+1", "1-", "1.0", "1e3", "0x10", "1_0", "1,0", "noreply", "\u0663", "1\r", "\t1", "1\x00", "\x00", "\xff", "0/", "9:", "-0", "-00", "-1", "-2", "-2000", "-2001",
		"00", "007", "-007", "0000000000000000000000", "00000000000000000000", "00000000000000000003", "000000000000000000003", "-00000000000000000003", "-000000000000000000003", "00000000000000002001"}
	for _, end := range []string{"0", "1", "8", "9", "10", "255", "256", "1999", "2000", "2001", "2002", "32767", "65535", "65536", "67536", "2147483647", "2147483648", "2147485648", "4294967295", "4294967296", "4294969296",
		"9223372036854775807", "9223372036854775808", "18446744073709551615", "18446744073709551616", "99999999999999999999", "100000000000000000000", "340282366920938463463374607431768211456"} {
		n, _ := new(big.Int).SetString(end, 10)
		for _, d := range []int64{-2, -1, 0, 1, 2} {
			m := new(big.Int).Add(n, big.NewInt(d))
			list = append(list, m.String(), new(big.Int).Neg(m).String())
		}
	}
	return list
}

// Promise 17.1: BYTES around each end: none, below 0, at most 2000, more, at most 2^31 - 1, and above.
func TestBytes(t *testing.T) {
	set := func(n int) Parsed { return wants(api.Command{Kind: api.Set, Keys: one("k"), Flags: 5, Exp: -6}, n) }
	big := func(n int) Parsed {
		return Parsed{Verdict: TooBig, C: api.Command{Kind: api.Set, Keys: one("k")}, Swallow: n}
	}
	for _, c := range []struct {
		word string
		want Parsed
	}{
		{"x", alone(BadChunk)}, {"-1", alone(BadChunk)}, {"-9223372036854775808", alone(BadChunk)}, {"+1", alone(BadChunk)}, {"-", alone(BadChunk)},
		{"0", set(0)}, {"-0", set(0)}, {"1", set(1)}, {"1999", set(1999)}, {"2000", set(2000)}, {"00000000000000002000", set(2000)},
		{"2001", big(2003)}, {"2002", big(2004)}, {"9999", big(10001)}, {"2147483646", big(1 << 31)}, {"2147483647", big(1<<31 + 1)},
		{"2147483648", big(0)}, {"2147483649", big(0)}, {"4294967295", big(0)}, {"4294967296", big(0)}, {"4294967299", big(0)}, {"9223372036854775807", big(0)},
		{"9223372036854775808", alone(BadChunk)}, {"18446744073709551615", alone(BadChunk)}, {"18446744073709551616", alone(BadChunk)}, {"18446744073709551619", alone(BadChunk)},
		{"000000000000000000003", alone(BadChunk)}, {"3\r", alone(BadChunk)}, {"3.0", alone(BadChunk)},
	} {
		parseIs(t, "set k 5 -6 "+c.word, c.want)
	}
}

// Promise 17.1: each word that is a number, of each kind, at each end of a number.
func TestNumbers(t *testing.T) {
	found := map[int]int{}
	for _, l := range lines {
		for _, sign := range "FEBCD" {
			if !strings.ContainsRune(l.behind, sign) {
				continue
			}
			for _, word := range numbers() {
				for _, end := range noreplies(l) {
					found[parsed(t, rightLine(l, sign, word)+end).Verdict]++
				}
			}
		}
	}
	for _, verdict := range []int{Ready, Wants, BadLine, BadChunk, BadDelta, BadExp, TooBig} {
		if found[verdict] == 0 {
			t.Errorf("no verdict %d among %v", verdict, found)
		}
	}
}

// Promise 17.1: FLAGS and CAS at their ends.
func TestFlagsAndCas(t *testing.T) {
	for _, c := range []struct {
		s    string
		want Parsed
	}{
		{"set k 4294967295 0 3", wants(api.Command{Kind: api.Set, Keys: one("k"), Flags: math.MaxUint32}, 3)},
		{"set k 4294967296 0 3", swallows(BadLine, 5)},
		{"set k 4294967301 0 3", swallows(BadLine, 5)},
		{"set k 18446744073709551615 0 3", swallows(BadLine, 5)},
		{"set k 18446744073709551616 0 3", swallows(BadLine, 5)},
		{"set k -1 0 3", swallows(BadLine, 5)},
		{"set k -0 0 3", swallows(BadLine, 5)},
		{"set k x 0 0", swallows(BadLine, 2)},
		{"append k 4294967295 0 3", wants(api.Command{Kind: api.Append, Keys: one("k")}, 3)},
		{"append k 4294967296 0 3", swallows(BadLine, 5)},
		{"prepend k x 0 3", swallows(BadLine, 5)},
		{"prepend k 0 x 3", swallows(BadExp, 5)},
		{"append k 0 9223372036854775808 3 noreply", swallows(BadExp, 5)},
		{"cas k 0 0 3 18446744073709551615", wants(api.Command{Kind: api.Cas, Keys: one("k"), Cas: math.MaxUint64}, 3)},
		{"cas k 0 0 3 18446744073709551616", swallows(BadLine, 5)},
		{"cas k 0 0 3 -1", swallows(BadLine, 5)},
		{"cas k 0 0 3 x noreply", swallows(BadLine, 5)},
		{"cas k 4294967296 0 3 4", swallows(BadLine, 5)},
	} {
		parseIs(t, c.s, c.want)
	}
}

// Promise 17.1: EXP and DELTA at their ends.
func TestExpAndDelta(t *testing.T) {
	for _, c := range []struct {
		s    string
		want Parsed
	}{
		{"touch k 9223372036854775807", ready(api.Command{Kind: api.Touch, Keys: one("k"), Exp: math.MaxInt64})},
		{"touch k 9223372036854775808", alone(BadExp)},
		{"touch k -9223372036854775808", ready(api.Command{Kind: api.Touch, Keys: one("k"), Exp: math.MinInt64})},
		{"touch k -9223372036854775809", alone(BadExp)},
		{"touch k x noreply", alone(BadExp)},
		{"gat -9223372036854775808 k", ready(api.Command{Kind: api.Gat, Keys: one("k"), Exp: math.MinInt64})},
		{"gat k k", alone(BadExp)},
		{"gats 1x k", alone(BadExp)},
		{"set k 0 9223372036854775807 3", wants(api.Command{Kind: api.Set, Keys: one("k"), Exp: math.MaxInt64}, 3)},
		{"set k 0 9223372036854775808 3", swallows(BadExp, 5)},
		{"set k 0 -9223372036854775808 3", wants(api.Command{Kind: api.Set, Keys: one("k"), Exp: math.MinInt64}, 3)},
		{"add k 0 x 2000", swallows(BadExp, 2002)},
		{"incr k 18446744073709551615", ready(api.Command{Kind: api.Incr, Keys: one("k"), Delta: math.MaxUint64})},
		{"incr k 18446744073709551616", alone(BadDelta)},
		{"decr k -1", alone(BadDelta)},
		{"decr k -0 noreply", alone(BadDelta)},
		{"incr k 000000000000000000001", alone(BadDelta)},
	} {
		parseIs(t, c.s, c.want)
	}
}

// Promise 17.1: keys of 1, 32 and 33 bytes, and with each byte, at each kind that has one.
func TestKeys(t *testing.T) {
	list := []string{"k", strings.Repeat("k", 31), strings.Repeat("k", 32), strings.Repeat("k", 33), strings.Repeat("k", 64), strings.Repeat("~", 32), strings.Repeat("!", 33),
		"\u00e4", strings.Repeat("\u00e4", 16), "k\u20ac", "\x00", "k\r", "\n", "k\tk", "noreply", "get", "-1", "0"}
	for b := range 256 {
		if b != ' ' {
			list = append(list, string([]byte{byte(b)}), string([]byte{'k', byte(b)}), string([]byte{byte(b), 'k'}))
		}
	}
	for _, l := range lines {
		for _, key := range list {
			for _, end := range noreplies(l) {
				for _, sign := range "KR" {
					if !strings.ContainsRune(l.behind, sign) {
						continue
					}
					p := parsed(t, rightLine(l, sign, key)+end)
					if is := p.Verdict == Ready || p.Verdict == Wants; is != isKey(key) || !is && p.Verdict != BadLine {
						t.Errorf("%s of the key %q: %+v", l.name, key, p)
					}
				}
			}
		}
	}
}

// Promise 17.1: 1 to 9 keys and more, with one that is none at each place.
func TestHowManyKeys(t *testing.T) {
	for _, l := range lines[:4] {
		for n := 1; n <= 40; n++ {
			list := keys(n, 1)
			s := rightLine(l, 'R', strings.Join(list, " "))
			p := parsed(t, s)
			want := alone(BadLine)
			if n <= 8 {
				want = ready(api.Command{Kind: l.kind, Keys: list})
				if l.kind >= 3 {
					want.C.Exp = -6
				}
			}
			if !same(p, want) {
				t.Errorf("Parse(%q): %+v", s, p)
			}
			for i := range n {
				for _, none := range []string{"\x7f", strings.Repeat("k", 33), "k\x00"} {
					with := slices.Clone(list)
					with[i] = none
					parseIs(t, rightLine(l, 'R', strings.Join(with, " ")), alone(BadLine))
				}
			}
		}
	}
}

// Promise 17.1: of what is wrong in two ways the document names one first.
func TestWrongTwice(t *testing.T) {
	long := strings.Repeat("k", 33)
	pad := strings.Repeat(" ", 160)
	for _, c := range []struct {
		s    string
		want Parsed
	}{
		// too long, and something else
		{pad + " ", alone(TooLong)}, {pad + "x", alone(TooLong)}, {"get" + pad, alone(TooLong)}, {"set k 0 0 -1" + pad, alone(TooLong)}, {"set " + long + " 0 0 9999" + pad, alone(TooLong)}, {"incr k x" + pad, alone(TooLong)},
		// too few words, or too many, and something else
		{"set k 0 -1", alone(BadCommand)}, {"set " + long + " x x x x", alone(BadCommand)}, {"cas k 0 0 -1", alone(BadCommand)}, {"incr " + long, alone(BadCommand)}, {"touch k x y", alone(BadCommand)},
		{"gat x", alone(BadCommand)}, {"delete " + long + " k", alone(BadCommand)}, {"x " + long, alone(BadCommand)}, {"set k 0 0 9999 noreply noreply", alone(BadCommand)},
		// BYTES, and something else
		{"set " + long + " 0 0 -1", alone(BadChunk)}, {"set k x 0 x", alone(BadChunk)}, {"set k 0 x -1", alone(BadChunk)}, {"cas k 0 0 -1 x", alone(BadChunk)}, {"cas " + long + " x x x x noreply", alone(BadChunk)},
		{"append k -1 x 9223372036854775808", alone(BadChunk)},
		// KEY, FLAGS or CAS, and something else
		{"set " + long + " x 0 3", swallows(BadLine, 5)}, {"set " + long + " 0 x 3", swallows(BadLine, 5)}, {"set " + long + " 0 0 2001", swallows(BadLine, 2003)}, {"set k x x 3", swallows(BadLine, 5)},
		{"set k 4294967296 x 2001 noreply", swallows(BadLine, 2003)}, {"cas k 0 x 3 x", swallows(BadLine, 5)}, {"cas k 0 0 2001 x", swallows(BadLine, 2003)}, {"cas k 0 x 2147483647 x", swallows(BadLine, 1<<31+1)},
		{"cas " + long + " 0 0 2147483648 4", swallows(BadLine, 0)}, {"prepend k x x 4294967296", swallows(BadLine, 0)},
		// EXP, and BYTES that are too many
		{"set k 0 x 2001", swallows(BadExp, 2003)}, {"append k 0 x 2147483647", swallows(BadExp, 1<<31+1)}, {"cas k 0 - 2147483648 4", swallows(BadExp, 0)}, {"replace k 0 9223372036854775808 9223372036854775807 noreply", swallows(BadExp, 0)},
		// BYTES that are too many alone
		{"append k 5 6 2001 noreply", Parsed{Verdict: TooBig, C: api.Command{Kind: api.Append, Keys: one("k"), Quiet: true}, Swallow: 2003}},
		{"cas k 5 6 2001 7", Parsed{Verdict: TooBig, C: api.Command{Kind: api.Cas, Keys: one("k")}, Swallow: 2003}},
		// KEY, and EXP or DELTA
		{"gat x " + long, alone(BadLine)}, {"gats x a b c d e f g h i", alone(BadLine)}, {"gat x a " + long + " b", alone(BadLine)}, {"touch " + long + " x", alone(BadLine)}, {"incr " + long + " x", alone(BadLine)},
		{"decr \x00 -1 noreply", alone(BadLine)}, {"get a b c d e f g h \x00", alone(BadLine)},
	} {
		parseIs(t, c.s, c.want)
	}
}

// someWords are words that a sign's word may be, right ones and wrong ones.
func someWords(sign rune) []string {
	return map[rune][]string{
		'K': {"k", strings.Repeat("k", 32), strings.Repeat("k", 33), "k\t", "noreply"},
		'R': {"k", "a b c d e f g h", "a b c d e f g h i", "a k\x00 b", "noreply", "k noreply", strings.Repeat("k", 33) + " a"},
		'F': {"0", "4294967295", "4294967296", "-1", "x"},
		'E': {"0", "-5", "9223372036854775807", "9223372036854775808", "x"},
		'B': {"0", "2000", "2001", "2147483647", "2147483648", "9223372036854775808", "-1", "-0", "x"},
		'C': {"0", "18446744073709551615", "18446744073709551616", "-1", "x"},
		'D': {"0", "18446744073709551615", "18446744073709551616", "-1", "x"},
	}[sign]
}

// each hands out all ways in which a line's words may be of someWords.
func each(begin string, behind string, yield func(string)) {
	if behind == "" {
		yield(begin)
		return
	}
	for _, word := range someWords(rune(behind[0])) {
		each(begin+" "+word, behind[1:], yield)
	}
}

// Promise 17.1: all ways in which a line's words may be right or wrong, with noreply, with a word more, and without.
func TestAllWays(t *testing.T) {
	found := map[int]int{}
	for _, l := range lines {
		each(l.name, l.behind, func(s string) {
			for _, end := range []string{"", " noreply", " x", " noreply x", "  "} {
				found[parsed(t, s+end).Verdict]++
			}
		})
	}
	for verdict := Ready; verdict < TooLong; verdict++ {
		if found[verdict] == 0 {
			t.Errorf("no verdict %d among %v", verdict, found)
		}
	}
}

// Promise 17.3: blanks more change nothing, as long as the line is not too long.
func TestBlanks(t *testing.T) {
	for _, l := range lines {
		each(l.name, l.behind, func(s string) {
			short := Parse(s)
			for _, more := range []string{" " + s, s + " ", "  " + s + "   ", strings.ReplaceAll(s, " ", "  "), " " + strings.ReplaceAll(s, " ", "    ") + " "} {
				want := short
				if len(more) > 160 {
					want = alone(TooLong)
				}
				if p := Parse(more); !same(p, want) {
					t.Errorf("Parse(%q): %+v, not %+v", more, p, want)
				}
			}
		})
	}
}

// writeIs holds Write against what it is to answer, and that against the document's words.
func writeIs(t *testing.T, c api.Command, s string, e api.Errno) {
	t.Helper()
	if got, err := Write(c); got != s || err != e {
		t.Errorf("Write(%+v): %q, error %d, not %q, error %d", c, got, err, s, e)
	}
	if got, err := wantWrite(c); got != s || err != e {
		t.Errorf("the test is wrong: Write(%+v): %q, error %d, not %q, error %d", c, got, err, s, e)
	}
}

// Promise 17.2: the line of each kind.
func TestWrite(t *testing.T) {
	k := one("k")
	for _, x := range []struct {
		c api.Command
		s string
	}{
		{api.Command{Kind: api.Get, Keys: k}, "get k"},
		{api.Command{Kind: api.Gets, Keys: []string{"b", "a", "b"}}, "gets b a b"},
		{api.Command{Kind: api.Gat, Keys: k}, "gat 0 k"},
		{api.Command{Kind: api.Gats, Keys: []string{"a", "noreply"}, Exp: -5}, "gats -5 a noreply"},
		{api.Command{Kind: api.Set, Keys: k}, "set k 0 0 0"},
		{api.Command{Kind: api.Set, Keys: k, Flags: 5, Exp: 6, Value: "abc", Quiet: true}, "set k 5 6 3 noreply"},
		{api.Command{Kind: api.Add, Keys: k, Flags: math.MaxUint32, Exp: math.MinInt64, Value: strings.Repeat("v", 2000)}, "add k 4294967295 -9223372036854775808 2000"},
		{api.Command{Kind: api.Replace, Keys: one("noreply"), Exp: math.MaxInt64, Value: " "}, "replace noreply 0 9223372036854775807 1"},
		{api.Command{Kind: api.Append, Keys: k, Value: "\u20ac\r\n"}, "append k 0 0 5"},
		{api.Command{Kind: api.Prepend, Keys: k, Value: "\x00\xff", Quiet: true}, "prepend k 0 0 2 noreply"},
		{api.Command{Kind: api.Cas, Keys: k, Flags: 1, Exp: -2, Value: "abc", Cas: 4, Quiet: true}, "cas k 1 -2 3 4 noreply"},
		{api.Command{Kind: api.Cas, Keys: k, Cas: math.MaxUint64}, "cas k 0 0 0 18446744073709551615"},
		{api.Command{Kind: api.Delete, Keys: k}, "delete k"},
		{api.Command{Kind: api.Delete, Keys: one("noreply"), Quiet: true}, "delete noreply noreply"},
		{api.Command{Kind: api.Incr, Keys: k}, "incr k 0"},
		{api.Command{Kind: api.Incr, Keys: k, Delta: math.MaxUint64, Quiet: true}, "incr k 18446744073709551615 noreply"},
		{api.Command{Kind: api.Decr, Keys: k, Delta: 7}, "decr k 7"},
		{api.Command{Kind: api.Touch, Keys: k, Exp: -1}, "touch k -1"},
		{api.Command{Kind: api.Touch, Keys: k, Quiet: true}, "touch k 0 noreply"},
		{api.Command{Kind: api.Flush}, "flush_all"},
		{api.Command{Kind: api.Flush, Quiet: true}, "flush_all noreply"},
	} {
		writeIs(t, x.c, x.s, api.OK)
	}
}

// Promise 17.2: verb.Check's errors.
func TestWriteOfWhatIsWrong(t *testing.T) {
	k := one("k")
	long := strings.Repeat("v", 2001)
	for _, x := range []struct {
		c api.Command
		e api.Errno
	}{
		{api.Command{}, 70}, {api.Command{Kind: 16, Keys: k}, 70}, {api.Command{Kind: -1}, 70}, {api.Command{Kind: 1 << 32, Keys: k}, 70},
		{api.Command{Kind: api.Get}, 6}, {api.Command{Kind: api.Get, Keys: keys(9, 1)}, 6}, {api.Command{Kind: api.Get, Keys: one("a b")}, 6}, {api.Command{Kind: api.Get, Keys: k, Quiet: true}, 6},
		{api.Command{Kind: api.Set}, 6}, {api.Command{Kind: api.Set, Keys: one("")}, 6}, {api.Command{Kind: api.Set, Keys: keys(2, 1)}, 6}, {api.Command{Kind: api.Set, Keys: one(strings.Repeat("k", 33))}, 6},
		{api.Command{Kind: api.Set, Keys: k, Cas: 1}, 6}, {api.Command{Kind: api.Append, Keys: k, Flags: 1}, 6}, {api.Command{Kind: api.Prepend, Keys: k, Exp: 1}, 6}, {api.Command{Kind: api.Delete, Keys: k, Value: "v"}, 6},
		{api.Command{Kind: api.Incr, Keys: k, Exp: 1}, 6}, {api.Command{Kind: api.Touch, Keys: k, Delta: 1}, 6}, {api.Command{Kind: api.Flush, Keys: k}, 6},
		{api.Command{Kind: api.Set, Keys: k, Value: long}, 7}, {api.Command{Kind: api.Append, Keys: k, Value: long, Quiet: true}, 7},
		// a line that would be too long, and something else
		{api.Command{Kind: api.Get, Keys: keys(9, 32)}, 6}, {api.Command{Kind: api.Get, Keys: keys(8, 32), Quiet: true}, 6}, {api.Command{Kind: api.Gets, Keys: keys(8, 33)}, 6}, {api.Command{Kind: 16, Keys: keys(8, 32)}, 70},
		{api.Command{Kind: api.Gat, Keys: keys(8, 32), Flags: 1}, 6}, {api.Command{Kind: api.Get, Keys: keys(8, 32), Exp: 1}, 6}, {api.Command{Kind: api.Get, Keys: one(strings.Repeat("k", 200))}, 6},
		// a Value that is too long, and something else
		{api.Command{Kind: api.Set, Value: long}, 6}, {api.Command{Kind: api.Get, Keys: k, Value: long}, 6}, {api.Command{Kind: 0, Keys: k, Value: long}, 70},
	} {
		writeIs(t, x.c, "", x.e)
	}
}

// Promise 17.2: a line of 160 bytes is written, one of 161 is too long.
func TestWriteOfLongLines(t *testing.T) {
	found := map[int]int{}
	for _, l := range lines[:4] {
		for n := 1; n <= 8; n++ {
			for size := 1; size <= 32; size++ {
				for _, exp := range []int64{0, 7, -1, 100, math.MaxInt32, math.MinInt64} {
					for last := 1; last <= 32; last++ {
						c := api.Command{Kind: l.kind, Keys: append(keys(n-1, size), strings.Repeat("z", last))}
						if l.kind >= 3 {
							c.Exp = exp
						} else if exp != 0 {
							continue
						}
						s, e := Write(c)
						if want, err := wantWrite(c); s != want || e != err {
							t.Fatalf("Write(%+v): %q, error %d, not %q, error %d", c, s, e, want, err)
						}
						found[len(s)]++
					}
				}
			}
		}
	}
	if found[0] == 0 || found[159] == 0 || found[160] == 0 || found[161] != 0 {
		t.Errorf("how long the lines were: %v", found)
	}
	writeIs(t, api.Command{Kind: api.Get, Keys: append(keys(4, 32), strings.Repeat("z", 25))}, "", api.ErrLong)
	writeIs(t, api.Command{Kind: api.Get, Keys: append(keys(4, 32), strings.Repeat("z", 24))}, "get "+strings.Join(keys(4, 32), " ")+" "+strings.Repeat("z", 24), api.OK)
}

// Promise 17.2: no line but those of several keys is too long.
func TestWriteOfLongestLines(t *testing.T) {
	for _, l := range lines[4:14] {
		c := api.Command{Kind: l.kind, Keys: keys(1, 32), Quiet: true}
		if strings.Contains(l.behind, "B") {
			c.Value = strings.Repeat("v", 2000)
		}
		if l.name != "append" && l.name != "prepend" && strings.Contains(l.behind, "E") {
			c.Exp = math.MinInt64
			if strings.Contains(l.behind, "F") {
				c.Flags = math.MaxUint32
			}
		}
		if strings.Contains(l.behind, "C") {
			c.Cas = math.MaxUint64
		}
		if strings.Contains(l.behind, "D") {
			c.Delta = math.MaxUint64
		}
		s, e := Write(c)
		if want, _ := wantWrite(c); e != api.OK || s != want {
			t.Errorf("Write(%+v): %q, error %d, not %q", c, s, e, want)
		}
	}
}

// back holds Parse of Write against the command, and against the line with blanks more.
func back(t *testing.T, c api.Command) {
	t.Helper()
	s, e := Write(c)
	if want, err := wantWrite(c); s != want || e != err {
		t.Fatalf("Write(%+v): %q, error %d, not %q, error %d", c, s, e, want, err)
	}
	if e != api.OK {
		return
	}
	want := ready(c)
	if verb.Stores(c.Kind) {
		want = wants(c, len(c.Value))
		want.C.Value = ""
	}
	for _, line := range []string{s, " " + s, s + "  ", strings.ReplaceAll(s, " ", "   ")} {
		if len(line) > 160 {
			want = alone(TooLong)
		}
		if p := Parse(line); !same(p, want) {
			t.Fatalf("Parse(%q): %+v, not %+v", line, p, want)
		}
	}
}

// noise is numbers without order, below n each.
func noise(v uint64) func(n int) int {
	return func(n int) int {
		v ^= v << 13
		v ^= v >> 7
		v ^= v << 17
		return int(v % uint64(n))
	}
}

// anyNumber is a number near a power of two, or a small one.
func anyNumber(next func(int) int) uint64 {
	switch next(3) {
	case 0:
		return uint64(next(20))
	case 1:
		return uint64(1)<<next(64) + uint64(next(3)) - 1
	}
	return uint64(next(1<<62)) << next(3)
}

// anyCommand is a right command; some are too long for a line.
func anyCommand(next func(int) int) api.Command {
	l := lines[next(len(lines))]
	c := api.Command{Kind: l.kind, Quiet: l.quiet && next(2) == 0}
	n := strings.Count(l.behind, "K")
	if strings.Contains(l.behind, "R") {
		n = 1 + next(8)
	}
	for range n {
		key := make([]byte, 1+next(32))
		for i := range key {
			key[i] = byte(33 + next(94))
		}
		c.Keys = append(c.Keys, string(key))
	}
	leaves := l.name == "append" || l.name == "prepend"
	for _, sign := range l.behind {
		switch {
		case sign == 'F' && !leaves:
			c.Flags = uint32(anyNumber(next))
		case sign == 'E' && !leaves:
			c.Exp = int64(anyNumber(next))
		case sign == 'B':
			c.Value = strings.Repeat("v", next(2001))
		case sign == 'C':
			c.Cas = anyNumber(next)
		case sign == 'D':
			c.Delta = anyNumber(next)
		}
	}
	return c
}

// Promise 17.3: Parse of Write is the command, and blanks more change nothing.
func TestParseOfWrite(t *testing.T) {
	next := noise(88172645463325252)
	for range 100000 {
		back(t, anyCommand(next))
	}
	for _, l := range lines {
		if l.behind != "" {
			for _, key := range []string{"noreply", "get", l.name, "0", "-1"} {
				c := api.Command{Kind: l.kind, Keys: one(key)}
				back(t, c)
				c.Quiet = l.quiet
				back(t, c)
			}
		}
	}
}

// anyLine is a line, of words in some order, some of them right ones.
func anyLine(next func(int) int) string {
	words := []string{"noreply", "k", "0", "-1", "3", "2001", "x", "get", "set", "", "\t", strings.Repeat("k", 33), "4294967296", "9223372036854775808", "k\x00", "\u20ac", "18446744073709551616"}
	l := lines[next(len(lines))]
	list := []string{l.name}
	for _, sign := range l.behind {
		list = append(list, rightWord(sign))
	}
	if next(3) == 0 {
		list = append(list, "noreply")
	}
	for range next(4) {
		word := words[next(len(words))]
		switch at := next(len(list) + 1); next(3) {
		case 0:
			list = slices.Insert(list, at, word)
		case 1:
			list = append(list[:min(at, len(list)-1)], list[min(at, len(list)-1)+1:]...)
			list = append(list, word)
		case 2:
			list[min(at, len(list)-1)] = word
		}
	}
	return strings.Join(list, strings.Repeat(" ", 1+next(3)))
}

// Promise 17.1: lines without order, held against the document's words.
func TestManyLines(t *testing.T) {
	next := noise(1181783497276652981)
	found := map[int]int{}
	for range 200000 {
		s := anyLine(next)
		p := parsed(t, s)
		found[p.Verdict]++
		if t.Failed() {
			t.FailNow()
		}
		if b := []byte(s); len(b) > 0 && next(4) == 0 { // one byte another
			b[next(len(b))] = byte(next(256))
			parsed(t, string(b))
		}
	}
	for verdict := Ready; verdict < TooLong; verdict++ {
		if found[verdict] == 0 {
			t.Errorf("no verdict %d among %v", verdict, found)
		}
	}
}

// Promise 17.1: lines and texts that are far longer than a line.
func TestFarTooLong(t *testing.T) {
	for _, s := range []string{strings.Repeat("get ", 1<<18), "set k 0 0 3" + strings.Repeat(" ", 1<<20), strings.Repeat("\xff", 1<<20), strings.Repeat(" ", 1<<20), strings.Repeat("set k 0 0 3\r\n", 1<<15)} {
		parseIs(t, s, alone(TooLong))
	}
}

// Promises 17.1 and 17.2 (R4): what is handed in is not changed; what is handed out is shared with nothing.
func TestNothingIsShared(t *testing.T) {
	for _, s := range []string{"get a b", "gat 5 a b c", "set a 1 2 3", "set a 1 2 2001", "delete a noreply"} {
		first, words := Parse(s), Words(s)
		was := Parse(s)
		for i := range words {
			words[i] = "x"
		}
		list := first.C.Keys
		for i := range list[:cap(list)] {
			list[:cap(list)][i] = "y"
		}
		if again := Parse(s); !same(again, was) || !same(was, wantParse(s)) {
			t.Errorf("Parse(%q), behind a change of another answer: %+v", s, again)
		}
		if again := Words(s); !slices.Equal(again, wantWords(s)) {
			t.Errorf("Words(%q), behind a change of another answer: %q", s, again)
		}
	}
	room := []string{"a", "b", "spare", "room"}
	c := api.Command{Kind: api.Get, Keys: room[:2]}
	if s, e := Write(c); s != "get a b" || e != api.OK {
		t.Errorf("Write: %q, error %d", s, e)
	}
	if !slices.Equal(room, []string{"a", "b", "spare", "room"}) {
		t.Errorf("Write changed what it was handed: %q", room)
	}
}

// FuzzLine holds Words and Parse against the document's words, and what is Ready against Write.
func FuzzLine(f *testing.F) {
	for _, l := range lines {
		f.Add(rightLine(l, 0, ""))
		f.Add(rightLine(l, 0, "") + "  noreply ")
	}
	f.Add("get a b c d e f g h i")
	f.Add("set k 0 0 2147483648")
	f.Add(strings.Repeat(" ", 161))
	f.Fuzz(func(t *testing.T, s string) {
		if got, want := Words(s), wantWords(s); !slices.Equal(got, want) {
			t.Errorf("Words(%q): %q, not %q", s, got, want)
		}
		if p := parsed(t, s); p.Verdict == Ready {
			back(t, p.C)
		}
	})
}

// FuzzWrite holds Write against the document's words, and Parse of it against the command.
func FuzzWrite(f *testing.F) {
	f.Add(5, "k", "v", uint32(5), int64(-1), uint64(0), uint64(0), true)
	f.Add(1, "a\nb", "", uint32(0), int64(0), uint64(0), uint64(0), false)
	f.Add(15, "", "", uint32(0), int64(0), uint64(0), uint64(0), true)
	f.Add(10, "noreply", "x", uint32(1), int64(1), uint64(1), uint64(0), true)
	f.Fuzz(func(t *testing.T, kind int, texts, value string, flags uint32, exp int64, cas, delta uint64, quiet bool) {
		c := api.Command{Kind: kind, Flags: flags, Exp: exp, Value: value, Cas: cas, Delta: delta, Quiet: quiet}
		if texts != "" {
			c.Keys = strings.Split(texts, "\n")
		}
		back(t, c)
	})
}
