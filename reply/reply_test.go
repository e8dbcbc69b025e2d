package reply

import (
	"fmt"
	"math"
	"math/big"
	"reflect"
	"regexp"
	"strconv"
	"strings"
	"testing"

	"tallboy/api"
	"tallboy/line"
	"tallboy/verb"
)

// codeWords are the lines of the Codes that have one, by the document's words; NoMemory has two of them.
var codeWords = map[int]string{
	2:  "STORED",
	3:  "NOT_STORED",
	4:  "EXISTS",
	5:  "NOT_FOUND",
	6:  "DELETED",
	8:  "CLIENT_ERROR cannot increment or decrement non-numeric value",
	9:  "TOUCHED",
	10: "OK",
	11: "SERVER_ERROR out of memory storing object",
	12: "SERVER_ERROR object too large for cache",
}

// inIncr is NoMemory's line of Incr and Decr.
const inIncr = "SERVER_ERROR out of memory in incr"

// verdictWords are the lines of the verdicts, by the document's words.
var verdictWords = map[int]string{
	3: "ERROR",
	4: "CLIENT_ERROR bad command line format",
	5: "CLIENT_ERROR bad data chunk",
	6: "CLIENT_ERROR invalid numeric delta argument",
	7: "CLIENT_ERROR invalid exptime argument",
	8: "SERVER_ERROR object too large for cache",
	9: "CLIENT_ERROR line too long",
}

// someKinds are all kinds, and some numbers that are none; the lowest bits of many of these are one.
var someKinds = []int{1, 2, 3, 4, 5, 6, 7, 8, 9, 10, 11, 12, 13, 14, 15, 0, -1, -2, -4, -12, -13, 16, 17, 18, 28, 29, 256 + 2, 256 + 12, 1<<32 + 2, 1<<32 + 4, 1<<32 + 12, 1<<32 + 13, math.MaxInt, math.MinInt, math.MinInt + 2, math.MinInt + 12}

// noCodes are numbers that are neither a Code nor a verdict.
var noCodes = []int{0, -1, -2, -3, -12, -13, 13, 14, 15, 16, 17, 18, 32, 64, 127, 128, 255, 256, 256 + 3, 256 + 7, 1 << 16, 1<<16 + 5, math.MaxInt32, math.MinInt32, 1 << 31, 1 << 32, 1<<32 + 1, 1<<32 + 2, 1<<32 + 7, 1<<32 + 8, -1 << 32, -1<<32 + 4, 1 << 62, math.MaxInt, math.MinInt, math.MinInt + 1, math.MinInt + 5}

// wordsOf is a Code's line of a command of a kind; empty: it has none.
func wordsOf(kind, code int) string {
	if code == 11 && (kind == 12 || kind == 13) {
		return inIncr
	}
	return codeWords[code]
}

// shows tells whether the lines of a kind have the Cas.
func shows(kind int) bool { return kind == 2 || kind == 4 }

// wantText is Text by the document's words.
func wantText(kind int, r verb.Result) string {
	switch r.Code {
	case 7:
		return strconv.FormatUint(r.N, 10) + "\r\n"
	case 1:
		var parts []string
		for _, h := range r.Hits {
			head := "VALUE " + h.Key + " " + strconv.FormatUint(uint64(h.Flags), 10) + " " + strconv.Itoa(len(h.Value))
			if shows(kind) {
				head += " " + strconv.FormatUint(h.Cas, 10)
			}
			parts = append(parts, head, h.Value)
		}
		return strings.Join(append(parts, "END"), "\r\n") + "\r\n"
	}
	if s := wordsOf(kind, r.Code); s != "" {
		return s + "\r\n"
	}
	return ""
}

// The forms of a key, and of a first line that is no Code's own.
var (
	headForm   = regexp.MustCompile(`^VALUE ([!-~]{1,32}) (0|[1-9][0-9]*) (0|[1-9][0-9]*)(?: (0|[1-9][0-9]*))?\r\n`)
	keyForm    = regexp.MustCompile(`^[!-~]{1,32}$`)
	numberForm = regexp.MustCompile(`^(0|[1-9][0-9]*)\r\n`)
)

// within is the number of digits, if it is not above most.
func within(s string, most uint64) (uint64, bool) {
	n, ok := new(big.Int).SetString(s, 10)
	if !ok || n.Sign() < 0 || n.Cmp(new(big.Int).SetUint64(most)) > 0 {
		return 0, false
	}
	return n.Uint64(), true
}

// wantRead is Read by the document's words.
func wantRead(kind int, s string) (verb.Result, int, api.Errno) {
	for code := range codeWords {
		if words := wordsOf(kind, code) + "\r\n"; strings.HasPrefix(s, words) {
			return verb.Result{Code: code}, len(words), 0
		}
	}
	if m := numberForm.FindStringSubmatch(s); m != nil {
		if n, ok := within(m[1], math.MaxUint64); ok {
			return verb.Result{Code: 7, N: n}, len(m[0]), 0
		}
	}
	r := verb.Result{Code: 1}
	for at := 0; len(r.Hits) <= 100; {
		if strings.HasPrefix(s[at:], "END\r\n") {
			return r, at + 5, 0
		}
		m := headForm.FindStringSubmatch(s[at:])
		if m == nil || shows(kind) != (m[4] != "") {
			break
		}
		flags, okFlags := within(m[2], math.MaxUint32)
		size, okSize := within(m[3], 2000)
		cas, okCas := within("0"+m[4], math.MaxUint64)
		at += len(m[0])
		if !okFlags || !okSize || !okCas || len(s) < at+int(size)+2 || s[at+int(size):at+int(size)+2] != "\r\n" {
			break
		}
		r.Hits = append(r.Hits, verb.Hit{Key: m[1], Flags: uint32(flags), Value: s[at : at+int(size)], Cas: cas})
		at += int(size) + 2
	}
	return verb.Result{}, 0, 6
}

// same tells whether two results are the same, a list without Hits being as good as none.
func same(a, b verb.Result) bool {
	if len(a.Hits) == 0 && len(b.Hits) == 0 {
		a.Hits, b.Hits = nil, nil
	}
	return reflect.DeepEqual(a, b)
}

// short is a result in writing, not all of it if it is long.
func short(r verb.Result) string { return fmt.Sprintf("%.300s", fmt.Sprintf("%+v", r)) }

// textIs holds Text against what it is to answer, and that against the document's words.
func textIs(t *testing.T, kind int, r verb.Result, want string) {
	t.Helper()
	if s := Text(kind, r); s != want {
		t.Errorf("Text(%d, %s): %.300q, not %.300q", kind, short(r), s, want)
	}
	if s := wantText(kind, r); s != want {
		t.Errorf("the test is wrong: Text(%d, %s): %.300q, not %.300q", kind, short(r), s, want)
	}
}

// read holds Read against the document's words, and hands its answer out.
func read(t *testing.T, kind int, s string) (verb.Result, int, api.Errno) {
	t.Helper()
	r, n, e := Read(kind, s)
	if want, size, err := wantRead(kind, s); !same(r, want) || n != size || e != err {
		t.Errorf("Read(%d, %.300q): %s, %d, error %d, not %s, %d, error %d", kind, s, short(r), n, e, short(want), size, err)
	}
	return r, n, e
}

// readIs holds Read against an answer that is written out, with nothing behind s and with more, and that against the document's words.
func readIs(t *testing.T, kind int, s string, want verb.Result) {
	t.Helper()
	for _, more := range []string{"", "more", "\r\n", "END\r\n", "STORED\r\n", "VALUE k 0 0\r\n\r\nEND\r\n", "\x00", "7\r\n"} {
		if r, n, e := read(t, kind, s+more); !same(r, want) || n != len(s) || e != api.OK {
			t.Errorf("Read(%d, %.300q) and %q behind it: %s, %d, error %d, not %s, %d", kind, s, more, short(r), n, e, short(want), len(s))
		}
	}
}

// refused holds Read against ErrField alone.
func refused(t *testing.T, kind int, s string) {
	t.Helper()
	if r, n, e := read(t, kind, s); !reflect.DeepEqual(r, verb.Result{}) || n != 0 || e != api.ErrField {
		t.Errorf("Read(%d, %.300q): %s, %d, error %d", kind, s, short(r), n, e)
	}
}

// values is a result of Hits.
func values(hits ...verb.Hit) verb.Result { return verb.Result{Code: verb.Values, Hits: hits} }

// someHits are so many Hits, with keys of their own.
func someHits(n int) []verb.Hit {
	var list []verb.Hit
	for i := range n {
		list = append(list, verb.Hit{Key: "k" + strconv.Itoa(i), Flags: uint32(i), Value: strings.Repeat("v", i%7)})
	}
	return list
}

// Promises 18.1 and 18.2: the chapter's example.
func TestExamples(t *testing.T) {
	r := values(verb.Hit{Key: "k", Flags: 5, Value: "abc"})
	textIs(t, api.Get, r, "VALUE k 5 3\r\nabc\r\nEND\r\n")
	readIs(t, api.Get, "VALUE k 5 3\r\nabc\r\nEND\r\n", r)
}

// Promises 18.1 and 18.2: the line of each Code that has one, for each kind, and back.
func TestCodes(t *testing.T) {
	for _, kind := range someKinds {
		for code, words := range codeWords {
			if code == verb.NoMemory && (kind == api.Incr || kind == api.Decr) {
				words = inIncr
			}
			textIs(t, kind, verb.Result{Code: code}, words+"\r\n")
			readIs(t, kind, words+"\r\n", verb.Result{Code: code})
		}
	}
}

// Promise 18.1: the text of a Code that is none is empty, whatever else the result has.
func TestCodesThatAreNone(t *testing.T) {
	for _, kind := range someKinds {
		for _, code := range noCodes {
			textIs(t, kind, verb.Result{Code: code}, "")
			textIs(t, kind, verb.Result{Code: code, N: 7, Hits: someHits(2)}, "")
		}
	}
}

// Promise 18.1: the line of each verdict that has one; of another one it is empty.
func TestComplaint(t *testing.T) {
	for _, x := range []struct {
		verdict int
		want    string
	}{
		{line.BadCommand, "ERROR\r\n"},
		{line.BadLine, "CLIENT_ERROR bad command line format\r\n"},
		{line.BadChunk, "CLIENT_ERROR bad data chunk\r\n"},
		{line.BadDelta, "CLIENT_ERROR invalid numeric delta argument\r\n"},
		{line.BadExp, "CLIENT_ERROR invalid exptime argument\r\n"},
		{line.TooBig, "SERVER_ERROR object too large for cache\r\n"},
		{line.TooLong, "CLIENT_ERROR line too long\r\n"},
		{line.Ready, ""},
		{line.Wants, ""},
	} {
		if s := Complaint(x.verdict); s != x.want {
			t.Errorf("Complaint(%d): %q, not %q", x.verdict, s, x.want)
		}
	}
	for verdict := -300; verdict <= 300; verdict++ {
		want := verdictWords[verdict]
		if want != "" {
			want += "\r\n"
		}
		if s := Complaint(verdict); s != want {
			t.Errorf("Complaint(%d): %q, not %q", verdict, s, want)
		}
	}
	for _, verdict := range append(noCodes, 1<<32+3, 1<<32+9, -1<<32+8, math.MinInt+9, 10, 11, 12) {
		if s := Complaint(verdict); s != "" {
			t.Errorf("Complaint(%d): %q", verdict, s)
		}
	}
}

// Promise 18.2: what is said of lines that are wrong is no result, but the line that a result has, too.
func TestReadOfComplaints(t *testing.T) {
	for _, kind := range someKinds {
		for verdict := range verdictWords {
			s := Complaint(verdict)
			if verdict == line.TooBig {
				readIs(t, kind, s, verb.Result{Code: verb.TooLarge})
			} else {
				refused(t, kind, s)
			}
		}
	}
}

// Promises 18.1 and 18.2: that there is no memory has a line of its own in Incr and Decr, and the other one in all other kinds.
func TestNoMemory(t *testing.T) {
	const storing = "SERVER_ERROR out of memory storing object"
	r := verb.Result{Code: verb.NoMemory}
	for _, kind := range someKinds {
		own, other := storing, inIncr
		if kind == api.Incr || kind == api.Decr {
			own, other = inIncr, storing
		}
		textIs(t, kind, r, own+"\r\n")
		readIs(t, kind, own+"\r\n", r)
		refused(t, kind, other+"\r\n")
		refused(t, kind, "SERVER_ERROR out of memory\r\n")
		refused(t, kind, other+"\r\n"+own+"\r\n")
	}
}

// someNumbers are numbers around each end that one has.
func someNumbers() []uint64 {
	list := []uint64{0, math.MaxUint64}
	for p := range 64 {
		n := uint64(1) << p
		list = append(list, n-1, n, n+1)
	}
	for n := uint64(10); n < 1<<60; n *= 10 {
		list = append(list, n-1, n, n+1, 5*n)
	}
	return list
}

// Promises 18.1, 18.2 and 18.3: numbers, and back.
func TestNumbers(t *testing.T) {
	for _, kind := range someKinds {
		for _, n := range someNumbers() {
			r := verb.Result{Code: verb.Number, N: n}
			textIs(t, kind, r, strconv.FormatUint(n, 10)+"\r\n")
			readIs(t, kind, strconv.FormatUint(n, 10)+"\r\n", r)
		}
	}
}

// oddNumbers are texts that are no number as digits.Text writes it, or one that is above 2^64 - 1.
var oddNumbers = []string{"", "00", "07", "-1", "-0", "+1", "+0", "1 ", " 1", "1 2", "1.0", "1e3", "0x10", "1_0", "1,0", "x", "1x", "x1", "-", "\u0663", "1\r", "\r1", "1\n", "\n1", "1\x00", "\x00", "\t1", "0/", "9:",
	"18446744073709551616", "18446744073709551617", "18446744073709551625", "20000000000000000000", "99999999999999999999", "00000000000000000001", "000000000000000000001", "018446744073709551615", "100000000000000000000", "340282366920938463463374607431768211456"}

// Promise 18.2: what is no number as digits.Text writes it.
func TestReadOfOddNumbers(t *testing.T) {
	for _, kind := range someKinds {
		for _, s := range oddNumbers {
			refused(t, kind, s+"\r\n")
			refused(t, kind, s+"\r\nEND\r\n")
			refused(t, kind, s+"\r\n7\r\n")
		}
	}
}

// Promises 18.1 and 18.2: Hits, written out.
func TestHits(t *testing.T) {
	a := verb.Hit{Key: "a", Flags: 0, Value: "", Cas: 0}
	b := verb.Hit{Key: strings.Repeat("b", 32), Flags: math.MaxUint32, Value: "x y", Cas: math.MaxUint64}
	c := verb.Hit{Key: "END", Flags: 10, Value: "\x00\xff\u20ac", Cas: 1}
	for _, x := range []struct {
		kind int
		hits []verb.Hit
		want string
	}{
		{api.Get, nil, "END\r\n"},
		{api.Gets, nil, "END\r\n"},
		{api.Gets, []verb.Hit{}, "END\r\n"},
		{api.Get, []verb.Hit{a}, "VALUE a 0 0\r\n\r\nEND\r\n"},
		{api.Gets, []verb.Hit{a}, "VALUE a 0 0 0\r\n\r\nEND\r\n"},
		{api.Gat, []verb.Hit{c, a}, "VALUE END 10 5\r\n\x00\xff\u20ac\r\nVALUE a 0 0\r\n\r\nEND\r\n"},
		{api.Gats, []verb.Hit{c, a}, "VALUE END 10 5 1\r\n\x00\xff\u20ac\r\nVALUE a 0 0 0\r\n\r\nEND\r\n"},
		{api.Gats, []verb.Hit{b, b}, strings.Repeat("VALUE "+b.Key+" 4294967295 3 18446744073709551615\r\nx y\r\n", 2) + "END\r\n"},
		{api.Get, []verb.Hit{b, b}, strings.Repeat("VALUE "+b.Key+" 4294967295 3\r\nx y\r\n", 2) + "END\r\n"},
	} {
		textIs(t, x.kind, values(x.hits...), x.want)
		read := values(x.hits...)
		if x.kind == api.Get || x.kind == api.Gat { // what is not shown is not read
			read = values(append([]verb.Hit(nil), x.hits...)...)
			for i := range read.Hits {
				read.Hits[i].Cas = 0
			}
		}
		readIs(t, x.kind, x.want, read)
	}
}

// Promises 18.1 and 18.2: the Cas is there just if the kind Shows.
func TestCas(t *testing.T) {
	for _, kind := range someKinds {
		hit := verb.Hit{Key: "k", Flags: 5, Value: "abc", Cas: 9}
		with, without := "VALUE k 5 3 9\r\nabc\r\nEND\r\n", "VALUE k 5 3\r\nabc\r\nEND\r\n"
		if kind == api.Gets || kind == api.Gats {
			textIs(t, kind, values(hit), with)
			readIs(t, kind, with, values(hit))
			refused(t, kind, without)
			refused(t, kind, "VALUE k 5 3 9\r\nabc\r\n"+without)
			continue
		}
		textIs(t, kind, values(hit), without)
		hit.Cas = 0
		readIs(t, kind, without, values(hit))
		refused(t, kind, with)
		refused(t, kind, "VALUE k 5 3\r\nabc\r\n"+with)
	}
}

// Promise 18.1: Text writes what a result has, also what Read does not take: texts that are no keys, values that are too long, more than 100 Hits.
func TestTextOfWhatIsNotRead(t *testing.T) {
	long := strings.Repeat("v", 2001)
	textIs(t, api.Get, values(verb.Hit{Key: "", Value: "x"}), "VALUE  0 1\r\nx\r\nEND\r\n")
	textIs(t, api.Get, values(verb.Hit{Key: "a b\r\n", Value: "x"}), "VALUE a b\r\n 0 1\r\nx\r\nEND\r\n")
	textIs(t, api.Get, values(verb.Hit{Key: "k", Value: long}), "VALUE k 0 2001\r\n"+long+"\r\nEND\r\n")
	textIs(t, api.Gets, values(verb.Hit{Key: long, Cas: 7}), "VALUE "+long+" 0 0 7\r\n\r\nEND\r\n")
	for _, n := range []int{100, 101, 1000} {
		r := values(someHits(n)...)
		textIs(t, api.Gats, r, wantText(api.Gats, r))
		if n := strings.Count(Text(api.Get, r), "VALUE "); n != len(r.Hits) {
			t.Errorf("%d lines of %d Hits", n, len(r.Hits))
		}
	}
}

// Promise 18.1: of a result the Code alone tells what is written.
func TestTextOfMore(t *testing.T) {
	hits := someHits(2)
	for _, kind := range someKinds {
		for code := range codeWords {
			textIs(t, kind, verb.Result{Code: code, N: 7, Hits: hits}, wantText(kind, verb.Result{Code: code}))
		}
		textIs(t, kind, verb.Result{Code: verb.Number, N: 7, Hits: hits}, "7\r\n")
		textIs(t, kind, verb.Result{Code: verb.Values, N: 7, Hits: hits}, wantText(kind, values(hits...)))
		textIs(t, kind, verb.Result{Code: verb.Values, N: 7}, "END\r\n")
	}
}

// lineWith is a text of one Hit, by the words of its first line; where a kind Shows, a Cas stands behind them.
func lineWith(kind int, words ...string) string {
	if shows(kind) {
		words = append(words, "7")
	}
	return strings.Join(words, " ") + "\r\nabc\r\nEND\r\n"
}

// Promise 18.2: a key of 1 to 32 bytes from 33 to 126, and others.
func TestKeys(t *testing.T) {
	list := []string{"", "k", strings.Repeat("k", 31), strings.Repeat("k", 32), strings.Repeat("k", 33), strings.Repeat("k", 64), strings.Repeat("k", 288), strings.Repeat("~", 32), strings.Repeat("!", 33),
		"\u00e4", "k\u20ac", "VALUE", "END", "STORED", "0", "-1", "k k", "k ", " k", "k\r", "\rk", "k\n", "\nk", "k\r\n", "k\tk"}
	for b := range 256 {
		x := string([]byte{byte(b)})
		list = append(list, x, "k"+x, x+"k", "k"+x+"k")
	}
	for _, kind := range someKinds {
		for _, key := range list {
			s := lineWith(kind, "VALUE", key, "5", "3")
			if !keyForm.MatchString(key) {
				refused(t, kind, s)
				continue
			}
			if r, n, e := read(t, kind, s); n != len(s) || e != api.OK || len(r.Hits) != 1 || r.Hits[0].Key != key {
				t.Errorf("Read(%d, %q): %s, %d, error %d", kind, s, short(r), n, e)
			}
		}
	}
}

// Promise 18.2: flags below 2^32, at most MaxValue bytes, a Cas below 2^64: each around its end, and as no number is written.
func TestNumbersOfHits(t *testing.T) {
	words := append([]string{}, oddNumbers...)
	for _, n := range append(someNumbers(), 1999, 2000, 2001, 2002, 3, 1<<32+3, 1<<16+3, 256+3) {
		words = append(words, strconv.FormatUint(n, 10))
	}
	for _, kind := range []int{api.Get, api.Gets, api.Gat, api.Gats, api.Set, 0} {
		for _, word := range words {
			n, ok := within(word, math.MaxUint64)
			ok = ok && strconv.FormatUint(n, 10) == word
			for at := 2; at <= 4; at++ {
				list := []string{"VALUE", "k", "5", "3", "7"}[:4]
				if shows(kind) {
					list = list[:5]
				} else if at == 4 {
					continue
				}
				list[at] = word
				value := "abc"
				if at == 3 && ok && n <= 3000 {
					value = strings.Repeat("v", int(n))
				}
				s := strings.Join(list, " ") + "\r\n" + value + "\r\nEND\r\n"
				most := []uint64{2: math.MaxUint32, 3: 2000, 4: math.MaxUint64}[at]
				if _, _, e := read(t, kind, s); (e == api.OK) != (ok && n <= most) {
					t.Errorf("Read(%d, %.200q): error %d", kind, s, e)
				}
			}
		}
	}
}

// Promise 18.2: how many bytes a value has the line says, at the ends and about one more or less.
func TestSizes(t *testing.T) {
	for _, kind := range []int{api.Get, api.Gats, api.Incr} {
		for _, size := range []int{0, 1, 2, 3, 1023, 1024, 1999, 2000} {
			for _, fill := range []string{"v", "\r", "\n", "\x00"} {
				value := strings.Repeat(fill, size)
				head := strings.TrimSuffix(lineWith(kind, "VALUE", "k", "5", strconv.Itoa(size)), "abc\r\nEND\r\n")
				r, _, e := read(t, kind, head+value+"\r\nEND\r\n")
				if e != api.OK || len(r.Hits) != 1 || r.Hits[0].Value != value {
					t.Errorf("Read(%d) of %d bytes %q: %s, error %d", kind, size, fill, short(r), e)
				}
				refused(t, kind, head+value+fill+"\r\nEND\r\n")
				refused(t, kind, head+fill+value+"\r\nEND\r\n")
				if size > 0 && fill != "\r" && fill != "\n" {
					refused(t, kind, head+value[1:]+"\r\nEND\r\n")
				}
				refused(t, kind, head+value+"\nEND\r\n")
				refused(t, kind, head+value+"\rEND\r\n")
				refused(t, kind, head+value+"\n\rEND\r\n")
				refused(t, kind, head+value+"END\r\n")
				refused(t, kind, head+value+" \r\nEND\r\n")
			}
		}
		long := strings.Repeat("v", 2001)
		refused(t, kind, strings.TrimSuffix(lineWith(kind, "VALUE", "k", "5", "2001"), "abc\r\nEND\r\n")+long+"\r\nEND\r\n")
	}
}

// Promise 18.2: one blank each, and no more; as many words, and no more.
func TestBlanksAndWords(t *testing.T) {
	for _, kind := range someKinds {
		right := []string{"VALUE", "k", "5", "3"}
		if shows(kind) {
			right = append(right, "7")
		}
		end := "\r\nabc\r\nEND\r\n"
		whole := strings.Join(right, " ")
		if _, n, e := read(t, kind, whole+end); n != len(whole+end) || e != api.OK {
			t.Errorf("Read(%d, %q): %d, error %d", kind, whole+end, n, e)
		}
		for i := range right {
			refused(t, kind, strings.Join(right[:i], " ")+end)     // too few words
			refused(t, kind, strings.Join(right[:i], " ")+" "+end) // and a blank behind them
			if i < len(right)-2 {                                  // of one word more it is a number
				refused(t, kind, strings.Join(right[i+1:], " ")+end)
			}
			without := append(append([]string{}, right[:i]...), right[i+1:]...)
			refused(t, kind, strings.Join(without, " ")+end)
			for _, gap := range []string{"", "  ", "   ", "\t", " \t", "\r", "\n", "\x00", "\u00a0", ",", "\r\n"} {
				if i > 0 || gap != "" {
					refused(t, kind, strings.Join(right[:i], " ")+gap+strings.Join(right[i:], " ")+end)
				}
			}
		}
		for _, more := range []string{" ", "  ", " 7", " 0", " x", " 7 8", " noreply", "\t", "\r", "\x00", ".", strings.Repeat(" 7", 1000)} {
			if s := whole + more; more != " 7" && more != " 0" || shows(kind) {
				refused(t, kind, s+end)
			}
			refused(t, kind, whole+" 7"+more+end)
		}
		for _, first := range []string{"", "value", "Value", "VALU", "VALUES", "VALUE:", "XVALUE", "VALUE\x00", "END", "STORED", "7", "VA", "\ufeffVALUE", "\"VALUE\""} {
			refused(t, kind, first+strings.TrimPrefix(whole, "VALUE")+end)
		}
	}
}

// Promise 18.2: first lines that are nearly a line.
func TestNearlyALine(t *testing.T) {
	list := []string{"END", inIncr, "VALUE", "ERROR", "OK"}
	for _, words := range codeWords {
		list = append(list, words)
	}
	for _, words := range verdictWords {
		list = append(list, words)
	}
	for _, kind := range someKinds {
		for _, words := range []string{"", " ", "\r", "\n", "\x00", "\r\n", "END", "STORED", "NOT", "SERVER_ERROR", "CLIENT_ERROR", "VALUE"} {
			refused(t, kind, words)
		}
		refused(t, kind, "\r\n")
		refused(t, kind, "\r\nEND\r\n")
		refused(t, kind, "\nEND\r\n")
		for _, words := range list {
			for _, s := range []string{words, words + "\r", words + "\n", words + "\n\r", words + " \r\n", " " + words + "\r\n", words + "\r\r\n", words + "\n\r\n", "\r\n" + words + "\r\n", "\r" + words + "\r\n", "\n" + words + "\r\n",
				words + "\x00\r\n", strings.ToLower(words) + "\r\n", words[1:] + "\r\n", words[:len(words)-1] + "\r\n", words + words + "\r\n", words + " 7\r\n", "x" + words + "\r\n", strings.ReplaceAll(words, " ", "  ") + " \r\n",
				words[:1] + strings.ToLower(words[1:]) + "\r\n", strings.ReplaceAll(words, "O", "0") + "_\r\n"} {
				refused(t, kind, s)
			}
		}
	}
}

// Promise 18.2: the first line alone is a Code's, and a Code's line is nothing among Hits.
func TestLinesAmongHits(t *testing.T) {
	hit := "VALUE k 5 3\r\nabc\r\n"
	for _, kind := range []int{api.Get, api.Set, api.Incr, 0} {
		for _, words := range codeWords {
			refused(t, kind, hit+words+"\r\n")
			refused(t, kind, hit+words+"\r\nEND\r\n")
		}
		for _, s := range []string{"7\r\n", "7\r\nEND\r\n", "\r\nEND\r\n", "END", "END\r", "END\n", "END \r\n", " END\r\n", "end\r\n", "ERROR\r\n", "VALUE\r\nEND\r\n", "VALUE k\r\nEND\r\n", ""} {
			refused(t, kind, hit+s)
			refused(t, kind, hit+hit+s)
		}
		readIs(t, kind, "END\r\n", values())
	}
}

// Promise 18.2: values that hold the ends of lines, or lines themselves.
func TestValuesThatHoldLines(t *testing.T) {
	for _, value := range []string{"\r\n", "\r\n\r\n", "END\r\n", "\r\nEND\r\n", "END", "\r", "\n", "\n\r", "STORED\r\n", "VALUE k 5 3\r\nabc\r\nEND\r\n", "abc\r\nVALUE k 5 3", "7\r\n", " ", "", "\x00\r\n\x00",
		strings.Repeat("END\r\n", 400), strings.Repeat("\r\n", 1000), "\r\nVALUE a 0 0\r\n\r\n"} {
		for _, kind := range []int{api.Get, api.Gets, api.Gat, api.Gats, api.Delete, -1} {
			for _, n := range []int{1, 2, 3, 100} {
				var hits []verb.Hit
				for range n {
					hits = append(hits, verb.Hit{Key: "k", Value: value})
				}
				s := wantText(kind, values(hits...))
				textIs(t, kind, values(hits...), s)
				readIs(t, kind, s, values(hits...))
			}
		}
	}
}

// someResults are right results of a kind, of each Code.
func someResults(kind int) []verb.Result {
	list := []verb.Result{{Code: verb.Number}, {Code: verb.Number, N: 1207}, {Code: verb.Number, N: math.MaxUint64}}
	for code := 2; code <= 12; code++ { // in order, so that two calls tell the same list
		if codeWords[code] != "" {
			list = append(list, verb.Result{Code: code})
		}
	}
	a := verb.Hit{Key: "a", Flags: 10, Value: "\r\n"}
	b := verb.Hit{Key: "VALUE", Value: "END\r\n", Flags: math.MaxUint32}
	c := verb.Hit{Key: "~", Flags: 7}
	if shows(kind) {
		a.Cas, b.Cas = 30, math.MaxUint64
	}
	return append(list, values(), values(a), values(b, a), values(c, c), values(a, b, c))
}

// Promise 18.2: a text that is cut off ahead of its last CRLF, or within it, is none.
func TestCutOff(t *testing.T) {
	for _, kind := range someKinds {
		for _, r := range someResults(kind) {
			s := wantText(kind, r)
			for n := range len(s) {
				refused(t, kind, s[:n])
			}
			readIs(t, kind, s, r)
		}
	}
	r := values(someHits(100)...)
	s := wantText(api.Get, r)
	for n := range len(s) {
		refused(t, api.Get, s[:n])
	}
	readIs(t, api.Get, s, r)
}

// Promise 18.2: what stands behind the first answer is not counted, whatever it is.
func TestBehind(t *testing.T) {
	for _, kind := range someKinds {
		var all []string
		for _, r := range someResults(kind) {
			all = append(all, wantText(kind, r))
		}
		for i, r := range someResults(kind) {
			s := wantText(kind, r)
			for _, more := range append(all, "", "x", "\r", "\n", "\r\n", " ", "\xff", "0", "VALUE", "VALUE k 5 3\r\nab") {
				if got, n, e := read(t, kind, s+more); !same(got, r) || n != len(s) || e != api.OK {
					t.Errorf("Read(%d, %q) of answer %d: %s, %d, error %d", kind, s+more, i, short(got), n, e)
				}
			}
		}
		// one behind the other, each from where the last one ended
		rest, results := strings.Join(all, ""), someResults(kind)
		for i := range results {
			r, n, e := read(t, kind, rest)
			if e != api.OK || n < 1 || n > len(rest) {
				t.Fatalf("Read(%d, %.100q): %s, %d, error %d", kind, rest, short(r), n, e)
			}
			if !same(r, results[i]) {
				t.Errorf("Read(%d, %.100q): %s, not %s", kind, rest, short(r), short(results[i]))
			}
			rest = rest[n:]
		}
		if rest != "" {
			t.Errorf("Read(%d): %q is left", kind, rest)
		}
	}
}

// Promise 18.2: 100 Hits are read, 101 are not, whatever stands behind them.
func TestHowManyHits(t *testing.T) {
	for _, kind := range []int{api.Get, api.Gets, api.Gat, api.Gats, api.Flush, 99} {
		for n := range 130 {
			r := values(someHits(n)...)
			s := Text(kind, r)
			if n <= 100 {
				readIs(t, kind, s, r)
				continue
			}
			refused(t, kind, s)
			refused(t, kind, s+s)
			refused(t, kind, strings.TrimSuffix(s, "END\r\n"))
		}
		hundred := values(someHits(100)...)
		if r, n, e := read(t, kind, Text(kind, hundred)+Text(kind, hundred)); !same(r, hundred) || n != len(Text(kind, hundred)) || e != api.OK {
			t.Errorf("Read(%d) of 100 Hits, twice: %d Hits, %d, error %d", kind, len(r.Hits), n, e)
		}
		refused(t, kind, strings.TrimSuffix(Text(kind, hundred), "END\r\n")+"VALUE k 0\r\n")
		refused(t, kind, strings.TrimSuffix(Text(kind, hundred), "END\r\n")+"STORED\r\n")
		for _, n := range []int{356, 512, 1000, 1124, 66000} {
			refused(t, kind, Text(kind, values(someHits(n)...)))
		}
	}
}

// Promise 18.2: of what is wrong in two ways nothing else is told than of what is wrong in one.
func TestWrongTwice(t *testing.T) {
	long := strings.Repeat("k", 33)
	for _, s := range []string{
		// a line that is wrong, and no CRLF, or a wrong one behind the value
		"VALUE " + long + " 4294967296 3\r\nabc\r\nEND\r\n", "VALUE " + long + " 0 2001\r\nabc\r\nEND\r\n", "VALUE k 4294967296 2001\r\nabc\r\nEND\r\n", "VALUE  k 05 3\r\nabc\r\nEND\r\n", "VALUE k x 3\r\nabcd\r\nEND\r\n",
		"VALUE k 0 2001\r\nabc", "VALUE k 0 2000\r\nabc\r\nEND", "VALUE k 0 3 x\r\nabc\nEND\r\n", "VALUE k 0 03\r\nabc\r\nEND", "value k 0 3\r\nabc\r\nend\r\n", "VALUE k 0 3\nabc\nEND\n", "VALUE k 0 18446744073709551616\r\nEND",
		// a Hit that is right, and then one that is wrong, and an end that is, too
		"VALUE k 0 3\r\nabc\r\nVALUE k 0 -3\r\nabc\r\nEND\r\n", "VALUE k 0 3\r\nabc\r\nVALUE k 0\r\nEND", "VALUE k 0 3\r\nabc\r\nSTORED", "VALUE k 0 3\r\nabc\r\n07\r\n", "VALUE k 0 3\r\nabc\r\n\r\nEND",
		// a number that is too great, and has noughts ahead; a line that nearly is one, without its end
		"018446744073709551616\r\n", "-018446744073709551616\r\n", "00\n", "07", "stored", "STORED \n", "END ", " END\r\nSTORED", "SERVER_ERROR out of memory in incr \r\n", "server_error out of memory storing object\n",
	} {
		for _, kind := range someKinds {
			refused(t, kind, s)
			refused(t, kind, strings.Replace(s, "\r\nabc", " 7\r\nabc", 1)+"x")
		}
	}
	// right first, and wrong behind
	for _, kind := range someKinds {
		for _, more := range []string{"VALUE " + long + " x y\r\n", "07\r\n", "\r\n\r\n", "stored\r\n", "END"} {
			for _, r := range someResults(kind) {
				s := wantText(kind, r)
				if got, n, e := read(t, kind, s+more); !same(got, r) || n != len(s) || e != api.OK {
					t.Errorf("Read(%d, %q): %s, %d, error %d", kind, s+more, short(got), n, e)
				}
			}
		}
	}
}

// Promise 18.2: all ways in which the words of a Hit's line, the value, and what stands behind it may be right or wrong.
func TestAllWays(t *testing.T) {
	long := strings.Repeat("v", 2001)
	found := map[api.Errno]int{}
	for _, kind := range []int{api.Get, api.Gets, api.Gat, api.Gats, api.Decr} {
		for _, first := range []string{"VALUE", "value", ""} {
			for _, key := range []string{"k", strings.Repeat("k", 33), "", "k\x7f"} {
				for _, flags := range []string{"0", "4294967295", "4294967296", "x", "05", ""} {
					for _, size := range []string{"0", "3", "2000", "2001", "x", "03", "", "18446744073709551616"} {
						for _, cas := range []string{" 7", "", " x", " 07", " 18446744073709551616", " "} {
							for _, value := range []string{"", "abc", long[1:], long} {
								for _, end := range []string{"\r\nEND\r\n", "\r\nEND", "\nEND\r\n", "END\r\n", "\r\nSTORED\r\n"} {
									_, _, e := read(t, kind, first+" "+key+" "+flags+" "+size+cas+"\r\n"+value+end)
									found[e]++
								}
							}
						}
					}
				}
			}
		}
	}
	// right are, for each kind, one Cas (or none), two flags, and three sizes, each of these with one value and one end
	if found[api.OK] != 5*2*3 || len(found) != 2 {
		t.Errorf("what was answered: %v", found)
	}
}

// Promise 18.2: right texts with each byte another, left out, or laid in, at each place.
func TestByteByByte(t *testing.T) {
	found := map[api.Errno]int{}
	for _, kind := range []int{api.Get, api.Gets, api.Set, api.Incr} {
		for _, r := range someResults(kind) {
			s := wantText(kind, r)
			for i := range len(s) {
				for b := range 256 {
					x := string([]byte{byte(b)})
					_, _, e := read(t, kind, s[:i]+x+s[i+1:])
					found[e]++
					_, _, e = read(t, kind, s[:i]+x+s[i:])
					found[e]++
				}
				_, _, e := read(t, kind, s[:i]+s[i+1:])
				found[e]++
				if i > 0 {
					read(t, kind, s[:i-1]+s[i:i+1]+s[i-1:i]+s[i+1:])
				}
				if t.Failed() {
					t.FailNow()
				}
			}
		}
	}
	if found[api.OK] == 0 || found[api.ErrField] == 0 || len(found) != 2 {
		t.Errorf("what was answered: %v", found)
	}
}

// noise is numbers without order, below n each.
func noise(v uint64) func(n int) int {
	return func(n int) int {
		v ^= v << 13
		v ^= v >> 7
		v ^= v << 17
		return int(v % uint64(n))
	}
}

// anyNumber is a number near a power of two, or a small one.
func anyNumber(next func(int) int) uint64 {
	switch next(3) {
	case 0:
		return uint64(next(20))
	case 1:
		return uint64(1)<<next(64) + uint64(next(3)) - 1
	}
	return uint64(next(1<<62)) << next(3)
}

// anyValue is a value of at most 2000 bytes, some of them ends of lines.
func anyValue(next func(int) int) string {
	signs := []string{"\r\n", "END\r\n", "\r", "\n", "v", " ", "\x00", "VALUE k 5 3\r\n", "abc", "\xff", "0"}
	var b strings.Builder
	for range next(30) {
		b.WriteString(signs[next(len(signs))])
	}
	s := b.String()
	if next(20) == 0 {
		s = strings.Repeat("v", next(2001)) + s
	}
	return s[max(0, len(s)-2000):]
}

// anyResult is a result that Read of Text gives back, of a kind.
func anyResult(kind int, next func(int) int) verb.Result {
	r := verb.Result{Code: 1 + next(12)}
	if next(2) == 0 {
		r.Code = verb.Values
	}
	switch r.Code {
	case verb.Number:
		r.N = anyNumber(next)
	case verb.Values:
		n := next(9)
		if next(20) == 0 {
			n = next(101)
		}
		for range n {
			key := make([]byte, 1+next(32))
			for i := range key {
				key[i] = byte(33 + next(94))
			}
			hit := verb.Hit{Key: string(key), Flags: uint32(anyNumber(next)), Value: anyValue(next)}
			if shows(kind) {
				hit.Cas = anyNumber(next)
			}
			r.Hits = append(r.Hits, hit)
		}
	}
	return r
}

// back holds Text against the document's words, its end, and Read of it against the result.
func back(t *testing.T, kind int, r verb.Result) {
	t.Helper()
	s := Text(kind, r)
	if want := wantText(kind, r); s != want {
		t.Fatalf("Text(%d, %s): %.300q, not %.300q", kind, short(r), s, want)
	}
	if !strings.HasSuffix(s, "\r\n") {
		t.Errorf("Text(%d, %s) has no end: %.300q", kind, short(r), s)
	}
	for _, more := range []string{"", "END\r\n"} {
		if got, n, e := Read(kind, s+more); !same(got, r) || n != len(s) || e != api.OK {
			t.Fatalf("Read(%d, %.300q): %s, %d, error %d, not %s, %d", kind, s+more, short(got), n, e, short(r), len(s))
		}
	}
}

// Promise 18.3: Read of Text is the result, and each Text ends with CRLF.
func TestReadOfText(t *testing.T) {
	for _, kind := range someKinds {
		for _, r := range someResults(kind) {
			back(t, kind, r)
		}
	}
	next := noise(88172645463325252)
	for range 30000 {
		kind := 1 + next(15)
		if next(10) == 0 {
			kind = someKinds[next(len(someKinds))]
		}
		back(t, kind, anyResult(kind, next))
	}
}

// Promise 18.3: what was asked of each of its conditions: where it does not hold, the result need not come back.
func TestWhatDoesNotComeBack(t *testing.T) {
	refused(t, api.Get, Text(api.Get, values(verb.Hit{Key: "a b"})))
	refused(t, api.Get, Text(api.Get, values(verb.Hit{})))
	refused(t, api.Get, Text(api.Get, values(verb.Hit{Key: "k", Value: strings.Repeat("v", 2001)})))
	refused(t, api.Get, Text(api.Get, values(someHits(101)...)))
	refused(t, api.Get, Text(api.Get, verb.Result{}))
	shown := verb.Hit{Key: "k", Value: "abc", Cas: 9}
	if r, _, e := read(t, api.Get, Text(api.Get, verb.Result{Code: verb.Values, Hits: []verb.Hit{shown}, N: 7})); e != api.OK || r.N != 0 || len(r.Hits) != 1 || r.Hits[0].Cas != 0 {
		t.Errorf("what is not shown came back: %s, error %d", short(r), e)
	}
	if r, _, e := read(t, api.Get, Text(api.Get, verb.Result{Code: verb.Stored, Hits: []verb.Hit{shown}, N: 7})); e != api.OK || !same(r, verb.Result{Code: verb.Stored}) {
		t.Errorf("what is not shown came back: %s, error %d", short(r), e)
	}
}

// Promise 18.2: texts without order, some of them nearly right, held against the document's words.
func TestManyTexts(t *testing.T) {
	next := noise(1181783497276652981)
	found := map[int]int{}
	parts := []string{"VALUE k 5 3\r\nabc\r\n", "VALUE k 5 3 7\r\nabc\r\n", "END\r\n", "VALUE ", "k ", "0 ", "3", " ", "\r\n", "\r", "\n", "abc", "STORED\r\n", inIncr + "\r\n", "7\r\n", "2000", "4294967296", "07", "VALUE k 0 0\r\n\r\n", "-", "\x00"}
	for range 100000 {
		kind := 1 + next(15)
		var s string
		if next(2) == 0 {
			for range 1 + next(6) {
				s += parts[next(len(parts))]
			}
		} else {
			b := []byte(wantText(kind, anyResult(kind, next)))
			b[next(len(b))] = "\r\n 019VED\x00k"[next(11)]
			s = string(b)
		}
		r, _, e := read(t, kind, s)
		found[r.Code]++
		if (e == api.OK) != (r.Code != 0) {
			t.Errorf("Read(%d, %.200q): %s, error %d", kind, s, short(r), e)
		}
		if t.Failed() {
			t.FailNow()
		}
	}
	for code := 0; code <= verb.TooLarge; code++ {
		if found[code] == 0 {
			t.Errorf("no Code %d among %v", code, found)
		}
	}
}

// Promise 18.2: texts that are far longer than any answer are refused, or read up to its end.
func TestFarTooLong(t *testing.T) {
	n := 1 << 22
	for _, s := range []string{strings.Repeat("x", n), strings.Repeat("\r", n), strings.Repeat("\n", n), strings.Repeat(" ", n) + "\r\n", strings.Repeat("0", n) + "\r\n", strings.Repeat("9", n) + "\r\n", "VALUE" + strings.Repeat(" ", n) + "\r\nEND\r\n",
		"VALUE " + strings.Repeat("k ", n) + "\r\nEND\r\n", "VALUE " + strings.Repeat("k", n) + " 0 0\r\n\r\nEND\r\n", "VALUE k 0 2000\r\n" + strings.Repeat("v", n) + "\r\nEND\r\n", strings.Repeat("VALUE k 0 0\r\n\r\n", n/16) + "END\r\n",
		strings.Repeat("VALUE k 0 0\r\n\r\n", 99) + strings.Repeat("x", n)} {
		for _, kind := range []int{api.Get, api.Gets, api.Set} {
			if r, size, e := Read(kind, s); !same(r, verb.Result{}) || size != 0 || e != api.ErrField {
				t.Errorf("Read(%d, %.100q): %s, %d, error %d", kind, s, short(r), size, e)
			}
			if r, size, e := Read(kind, "END\r\n"+s); !same(r, values()) || size != 5 || e != api.OK {
				t.Errorf("Read(%d) of END and %.100q: %s, %d, error %d", kind, s, short(r), size, e)
			}
		}
	}
	long := strings.Repeat("v", n)
	if s := Text(api.Get, values(verb.Hit{Key: long, Value: long})); s != "VALUE "+long+" 0 "+strconv.Itoa(n)+"\r\n"+long+"\r\nEND\r\n" {
		t.Errorf("Text of %d bytes: %d bytes", n, len(s))
	}
}

// Promises 18.1 and 18.2 (R4): what is handed in is not changed; what is handed out is shared with nothing.
func TestNothingIsShared(t *testing.T) {
	room := someHits(4)
	if s := Text(api.Gets, values(room[:2]...)); s != "VALUE k0 0 0 0\r\n\r\nVALUE k1 1 1 0\r\nv\r\nEND\r\n" {
		t.Errorf("Text: %q", s)
	}
	if !reflect.DeepEqual(room, someHits(4)) {
		t.Errorf("Text changed what it was handed: %v", room)
	}
	want := values(someHits(5)...)
	s := Text(api.Get, want)
	first, _, _ := Read(api.Get, s)
	again, _, _ := Read(api.Get, s)
	list := first.Hits[:cap(first.Hits)]
	for i := range list {
		list[i] = verb.Hit{Key: "x", Flags: 9, Value: "y", Cas: 9}
	}
	if !same(again, want) {
		t.Errorf("Read, behind a change of another answer: %s", short(again))
	}
	if r, n, e := read(t, api.Get, s); !same(r, want) || n != len(s) || e != api.OK {
		t.Errorf("Read, behind a change of another answer: %s, %d, error %d", short(r), n, e)
	}
}

// FuzzRead holds Read against the document's words, and Text of what it read against what was read.
func FuzzRead(f *testing.F) {
	for _, kind := range []int{api.Get, api.Gets, api.Incr} {
		for _, r := range someResults(kind) {
			f.Add(kind, wantText(kind, r))
		}
	}
	f.Add(api.Get, "VALUE  k 0 0\r\n\r\nEND\r\n")
	f.Fuzz(func(t *testing.T, kind int, s string) {
		r, n, e := read(t, kind, s)
		if e == api.OK && Text(kind, r) != s[:n] {
			t.Errorf("Text(%d, %s): %q, not %q", kind, short(r), Text(kind, r), s[:n])
		}
	})
}

// FuzzText holds Text and Complaint against the document's words, and Read of a right result's text against it.
func FuzzText(f *testing.F) {
	f.Add(1, 1, "k", "abc\r\n", uint32(5), uint64(0), uint64(0), 2)
	f.Add(2, 1, "k", "", uint32(0), uint64(9), uint64(0), 100)
	f.Add(12, 11, "", "", uint32(0), uint64(0), uint64(0), 0)
	f.Add(13, 7, "", "", uint32(0), uint64(0), uint64(math.MaxUint64), 0)
	f.Fuzz(func(t *testing.T, kind, code int, key, value string, flags uint32, cas, n uint64, many int) {
		r := verb.Result{Code: code, N: n}
		for i := range min(max(many, 0), 110) {
			r.Hits = append(r.Hits, verb.Hit{Key: key, Flags: flags + uint32(i), Value: value, Cas: cas})
		}
		s := Text(kind, r)
		if want := wantText(kind, r); s != want {
			t.Errorf("Text(%d, %s): %q, not %q", kind, short(r), s, want)
		}
		want := verdictWords[code]
		if want != "" {
			want += "\r\n"
		}
		if s := Complaint(code); s != want {
			t.Errorf("Complaint(%d): %q, not %q", code, s, want)
		}
		read(t, kind, s)
		right := keyForm.MatchString(key) && len(value) <= 2000 && len(r.Hits) <= 100 && cas == 0 && n == 0
		if code == verb.Values && right {
			back(t, kind, r)
		}
	})
}
