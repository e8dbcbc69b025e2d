package classes

import (
	"math"
	"math/big"
	"slices"
	"testing"

	"tallboy/api"
)

// far is a whole number beyond all that may be asked for, whose lowest 32 bits are 0.
const far = 1 << 32

// ends are whole numbers at the ends of what some bits hold, and those of which 4 times leaves its type,
// so that what is left of it is a small number: at, above and below each quarter of the type.
var ends = []int{math.MinInt, math.MinInt + 1, math.MinInt + 2, math.MinInt + 8, math.MinInt + 64, math.MinInt + 100, math.MinInt + 1024,
	-1 << 62, -1<<62 + 1, -1<<62 - 1, -1<<62 + 64, -1 << 61, -1<<61 + 1, -far - 1, -far, -far + 1, -far + 2, -far + 64, math.MinInt32 - 1, math.MinInt32, math.MinInt32 + 1,
	math.MaxInt32 - 1, math.MaxInt32, 1 << 31, 1<<31 + 1, far - 1, far, far + 1, far + 2, far + 3, far + 64, far + 100,
	1 << 61, 1<<61 + 1, 1<<61 + 50, 1 << 62, 1<<62 + 1, 1<<62 + 2, 1<<62 + 50, 1<<62 + 100, 3 << 61, 3<<61 + 1,
	math.MaxInt / 4, math.MaxInt/4 + 1, math.MaxInt/4 + 2, math.MaxInt / 3, math.MaxInt / 2, math.MaxInt/2 + 1,
	math.MaxInt - 1024, math.MaxInt - 100, math.MaxInt - 64, math.MaxInt - 7, math.MaxInt - 1, math.MaxInt}

// near are all whole numbers from one to another one, each end with it.
func near(from, to int) []int {
	var list []int
	for n := from; n <= to; n++ {
		list = append(list, n)
	}
	return list
}

// isFactorAsTold tells by numbers that have no end whether Table is to take a factor.
func isFactorAsTold(over, under int) bool {
	o, u := big.NewInt(int64(over)), big.NewInt(int64(under))
	least := new(big.Int).Add(u, big.NewInt(1))
	last := new(big.Int).Mul(u, big.NewInt(4))
	return u.Cmp(big.NewInt(1)) >= 0 && u.Cmp(big.NewInt(100)) <= 0 && o.Cmp(least) >= 0 && o.Cmp(last) <= 0
}

// nextAsTold is the size behind another one: told by counting, without a division.
func nextAsTold(last, over, under int) int {
	divided := 0
	for (divided+1)*under <= last*over {
		divided++
	}
	size := 0
	for size < divided {
		size += 8
	}
	for size < last+8 {
		size++
	}
	return size
}

// tableAsTold is what Table is to answer to a factor that it takes.
func tableAsTold(over, under int) []int {
	list := []int{64}
	for len(list) < 7 {
		size := nextAsTold(list[len(list)-1], over, under)
		if size > 512 {
			break
		}
		list = append(list, size)
	}
	return append(list, 1024)
}

// checkTable holds what Table answers against what it is to answer.
func checkTable(t *testing.T, over, under int) {
	t.Helper()
	list, e := Table(over, under)
	if !isFactorAsTold(over, under) {
		if e != api.ErrRange || len(list) != 0 {
			t.Errorf("Table(%d, %d): %v, error %d, not error 1 alone", over, under, list, e)
		}
		return
	}
	if want := tableAsTold(over, under); e != api.OK || !slices.Equal(list, want) {
		t.Errorf("Table(%d, %d): %v, error %d, not %v", over, under, list, e, want)
	}
}

// tables are all that Table answers.
func tables(t *testing.T) [][]int {
	t.Helper()
	var all [][]int
	for under := 1; under <= 100; under++ {
		for over := under + 1; over <= 4*under; over++ {
			list, e := Table(over, under)
			if e != api.OK {
				t.Fatalf("Table(%d, %d): error %d", over, under, e)
			}
			all = append(all, list)
		}
	}
	return all
}

// Promises 6.1 and 6.2: the chapter's examples.
func TestExamples(t *testing.T) {
	list, e := Table(3, 2)
	if !slices.Equal(list, []int{64, 96, 144, 216, 328, 496, 1024}) || e != api.OK {
		t.Errorf("Table(3, 2): %v, error %d", list, e)
	}
	if class, e := For(list, 97); class != 2 || e != api.OK {
		t.Errorf("For 97 bytes: %d, error %d", class, e)
	}
	if PerPage(96) != 10 || Waste(96) != 64 {
		t.Errorf("size 96: %d in a page, waste %d", PerPage(96), Waste(96))
	}
	if list, e := Table(2, 1); !slices.Equal(list, []int{64, 128, 256, 512, 1024}) || e != api.OK {
		t.Errorf("Table(2, 1): %v, error %d", list, e)
	}
}

// Promise 6.1: tables that are known.
func TestKnownTables(t *testing.T) {
	for _, c := range []struct {
		over, under int
		want        []int
	}{
		// the least and the greatest factors, of an under of 1 and of 100
		{2, 1, []int{64, 128, 256, 512, 1024}}, {3, 1, []int{64, 192, 1024}}, {4, 1, []int{64, 256, 1024}},
		{101, 100, []int{64, 72, 80, 88, 96, 104, 112, 1024}}, {399, 100, []int{64, 256, 1024}}, {400, 100, []int{64, 256, 1024}},
		{100, 99, []int{64, 72, 80, 88, 96, 104, 112, 1024}}, {396, 99, []int{64, 256, 1024}},
		// the same factor in other numbers
		{3, 2, []int{64, 96, 144, 216, 328, 496, 1024}}, {150, 100, []int{64, 96, 144, 216, 328, 496, 1024}}, {4, 2, []int{64, 128, 256, 512, 1024}},
		// sizes that are multiples of 8 already, and those that are made so
		{5, 4, []int{64, 80, 104, 136, 176, 224, 280, 1024}}, {5, 2, []int{64, 160, 400, 1024}}, {7, 6, []int{64, 80, 96, 112, 136, 160, 192, 1024}},
		// at first 8 more each time, then more than 8
		{9, 8, []int{64, 72, 88, 104, 120, 136, 160, 1024}}, {10, 9, []int{64, 72, 80, 88, 104, 120, 136, 1024}}, {11, 10, []int{64, 72, 80, 88, 96, 112, 128, 1024}},
		{17, 16, []int{64, 72, 80, 88, 96, 104, 112, 1024}}, {113, 100, []int{64, 72, 88, 104, 120, 136, 160, 1024}},
		// 7 sizes, though one more is at most half a page: 512 in the last one
		{6, 5, []int{64, 80, 96, 120, 144, 176, 216, 1024}}, {4, 3, []int{64, 88, 120, 160, 216, 288, 384, 1024}},
	} {
		if list, e := Table(c.over, c.under); !slices.Equal(list, c.want) || e != api.OK {
			t.Errorf("Table(%d, %d): %v, error %d, not %v", c.over, c.under, list, e, c.want)
		}
	}
}

// Promise 6.1: sizes around half a page: those that are at most 512 behind the rounding are there, and no greater one.
func TestTablesAtHalfAPage(t *testing.T) {
	for _, c := range []struct {
		over, under int
		divided     int // what the size behind the last one is, ahead of the rounding
		there       bool
	}{
		{73, 37, 505, true}, {85, 43, 506, true}, {36, 13, 509, true}, {25, 9, 511, true}, {2, 1, 512, true}, {39, 14, 512, true},
		{53, 19, 513, false}, {95, 34, 514, false}, {14, 5, 515, false}, {31, 11, 518, false}, {48, 17, 519, false}, {65, 23, 520, false}, {17, 6, 521, false},
	} {
		list, e := Table(c.over, c.under)
		n := len(list)
		if e != api.OK || n < 3 || n > 7 || list[n-1] != 1024 {
			t.Errorf("Table(%d, %d): %v, error %d", c.over, c.under, list, e)
			continue
		}
		before := list[n-2]
		if c.there {
			before = list[n-3]
		}
		if before*c.over/c.under != c.divided {
			t.Errorf("Table(%d, %d): %v, of which %d times the factor is not %d", c.over, c.under, list, before, c.divided)
		}
		if (list[n-2] == 512) != c.there {
			t.Errorf("Table(%d, %d): %v, of which 512 is to be there: %t", c.over, c.under, list, c.there)
		}
	}
}

// Promise 6.1: each factor that is taken, and each near those.
func TestTable(t *testing.T) {
	for under := -5; under <= 105; under++ {
		for over := -5; over <= 4*max(under, -under)+5; over++ {
			checkTable(t, over, under)
		}
	}
}

// Promise 6.1: which factors are refused at the edges of an under, and of an over.
func TestTableRefuses(t *testing.T) {
	for _, c := range []struct {
		over, under int
		want        api.Errno
	}{
		// under of 0, 1, 100 and 101, each with an over that would do
		{1, 0, api.ErrRange}, {0, 0, api.ErrRange}, {2, 1, api.OK}, {4, 1, api.OK}, {101, 100, api.OK}, {400, 100, api.OK},
		{102, 101, api.ErrRange}, {200, 101, api.ErrRange}, {404, 101, api.ErrRange}, {-1, -2, api.ErrRange}, {-4, -1, api.ErrRange}, {2, -1, api.ErrRange},
		// over at under, one more, 4 times under, and one more
		{1, 1, api.ErrRange}, {0, 1, api.ErrRange}, {-1, 1, api.ErrRange}, {5, 1, api.ErrRange},
		{2, 2, api.ErrRange}, {3, 2, api.OK}, {8, 2, api.OK}, {9, 2, api.ErrRange},
		{100, 100, api.ErrRange}, {99, 100, api.ErrRange}, {401, 100, api.ErrRange}, {-101, 100, api.ErrRange},
		// both wrong
		{0, -1, api.ErrRange}, {101, 101, api.ErrRange}, {405, 101, api.ErrRange}, {1, 101, api.ErrRange}, {-1, 0, api.ErrRange},
	} {
		if list, e := Table(c.over, c.under); e != c.want || (len(list) == 0) != (c.want != api.OK) {
			t.Errorf("Table(%d, %d): %v, error %d, not error %d", c.over, c.under, list, e, c.want)
		}
	}
}

// Promise 6.1: whole numbers at the ends of their type, with one another and with small ones.
func TestTableAtEnds(t *testing.T) {
	all := append(near(-9, 9), 63, 64, 99, 100, 101, 255, 256, 257, 399, 400, 401, 1024, -100, -400)
	all = append(all, ends...)
	for _, under := range all {
		for _, over := range all {
			checkTable(t, over, under)
		}
		// and those at the edges of what over may be, as far as they wrap round
		for _, d := range []int{-1, 0, 1, 2} {
			checkTable(t, under+d, under)
			checkTable(t, 4*under+d, under)
		}
	}
}

// Promise 6.1: an answer is its asker's alone: what he writes into it, and behind its end, is in no other.
func TestTablesShareNothing(t *testing.T) {
	for _, f := range [][2]int{{2, 1}, {3, 2}, {101, 100}} {
		want := tableAsTold(f[0], f[1])
		first, _ := Table(f[0], f[1])
		second, _ := Table(f[0], f[1])
		if len(first) != len(want) {
			t.Errorf("Table(%d, %d): %v", f[0], f[1], first)
			continue
		}
		for i := range first {
			first[i] = -1
		}
		first = append(first, -2, -3)
		third, _ := Table(f[0], f[1])
		if !slices.Equal(second, want) || !slices.Equal(third, want) || first[0] != -1 {
			t.Errorf("Table(%d, %d) behind a list that was written to: %v and %v", f[0], f[1], second, third)
		}
	}
}

// classAsTold is what For is to answer: the sizes are asked from the last one on, so that the first one that does is told last.
func classAsTold(table []int, n int) (int, api.Errno) {
	if n < 0 {
		return 0, api.ErrRange
	}
	class, e := 0, api.ErrLong
	for i := len(table) - 1; i >= 0; i-- {
		if table[i] >= n {
			class, e = i, api.OK
		}
	}
	return class, e
}

// checkFor holds what For answers against what it is to answer, and the list against what it was.
func checkFor(t *testing.T, table []int, n int) {
	t.Helper()
	room := slices.Clone(table[:cap(table)])
	class, e := For(table, n)
	want, wantErr := classAsTold(table, n)
	if class != want || e != wantErr {
		t.Errorf("For(%v, %d): %d, error %d, not %d, error %d", table, n, class, e, want, wantErr)
	}
	if !slices.Equal(table[:cap(table)], room) {
		t.Errorf("For(%v, %d): the list or what is behind its end is changed", room, n)
	}
}

// Promise 6.2: which class so many bytes have, at the edges of sizes, of lists of all kinds.
func TestForAtEdges(t *testing.T) {
	list := []int{64, 96, 144, 1024}
	for _, c := range []struct {
		table []int
		n     int
		want  int
		e     api.Errno
	}{
		{list, 0, 0, api.OK}, {list, 1, 0, api.OK}, {list, 63, 0, api.OK}, {list, 64, 0, api.OK}, {list, 65, 1, api.OK}, {list, 96, 1, api.OK},
		{list, 97, 2, api.OK}, {list, 144, 2, api.OK}, {list, 145, 3, api.OK}, {list, 1023, 3, api.OK}, {list, 1024, 3, api.OK},
		{list, 1025, 0, api.ErrLong}, {list, math.MaxInt, 0, api.ErrLong}, {list, far, 0, api.ErrLong}, {list, far + 64, 0, api.ErrLong},
		{list, -1, 0, api.ErrRange}, {list, -64, 0, api.ErrRange}, {list, math.MinInt, 0, api.ErrRange}, {list, -far + 65, 0, api.ErrRange},
		// empty lists, and what is wrong with n, too
		{nil, 0, 0, api.ErrLong}, {nil, 1, 0, api.ErrLong}, {nil, -1, 0, api.ErrRange}, {[]int{}, 0, 0, api.ErrLong}, {[]int{}, -1, 0, api.ErrRange},
		{nil, math.MinInt, 0, api.ErrRange}, {nil, math.MaxInt, 0, api.ErrLong}, {list[:0], 64, 0, api.ErrLong},
		// what lies behind the end is no size
		{list[:2], 97, 0, api.ErrLong}, {list[:2], 96, 1, api.OK}, {list[1:3], 1, 0, api.OK}, {list[1:3], 97, 1, api.OK}, {list[1:3], 145, 0, api.ErrLong},
		// lists that do not rise
		{[]int{1024, 144, 64}, 1, 0, api.OK}, {[]int{1024, 144, 64}, 1024, 0, api.OK}, {[]int{64, 1024, 96}, 65, 1, api.OK}, {[]int{64, 1024, 96}, 96, 1, api.OK},
		{[]int{64, 1024, 96}, 1025, 0, api.ErrLong}, {[]int{96, 64, 144}, 97, 2, api.OK}, {[]int{64, 64, 64}, 64, 0, api.OK}, {[]int{64, 64, 65}, 65, 2, api.OK},
		{[]int{500, 8, 400, 9, 600}, 401, 0, api.OK}, {[]int{500, 8, 400, 9, 600}, 501, 4, api.OK},
		// sizes below 1
		{[]int{0}, 0, 0, api.OK}, {[]int{0}, 1, 0, api.ErrLong}, {[]int{-1}, 0, 0, api.ErrLong}, {[]int{-1}, -1, 0, api.ErrRange}, {[]int{-1, 0}, 0, 1, api.OK},
		{[]int{-5, -4, 0, 1}, 0, 2, api.OK}, {[]int{-5, -4, 0, 1}, 1, 3, api.OK}, {[]int{-5, -4, 0, 1}, -5, 0, api.ErrRange}, {[]int{-2, -1}, math.MinInt, 0, api.ErrRange},
		{[]int{math.MinInt, math.MinInt + 1, math.MaxInt}, 0, 2, api.OK}, {[]int{math.MinInt}, 0, 0, api.ErrLong}, {[]int{math.MinInt}, math.MinInt, 0, api.ErrRange},
		{[]int{math.MinInt, -1}, math.MaxInt, 0, api.ErrLong}, {[]int{-1 << 62, 5}, 1 << 62, 0, api.ErrLong},
		// sizes of no page
		{[]int{1024, math.MaxInt}, 1025, 1, api.OK}, {[]int{1024, math.MaxInt}, math.MaxInt, 1, api.OK}, {[]int{math.MaxInt - 1}, math.MaxInt, 0, api.ErrLong},
		{[]int{far, far + 5}, 6, 0, api.OK}, {[]int{5, far}, 6, 1, api.OK}, {[]int{far, far + 5}, far + 1, 1, api.OK},
	} {
		if class, e := For(c.table, c.n); class != c.want || e != c.e {
			t.Errorf("For(%v, %d): %d, error %d, not %d, error %d", c.table, c.n, class, e, c.want, c.e)
		}
		checkFor(t, c.table, c.n)
	}
}

// Promise 6.2: all lists of up to four sizes out of a few, some of them below 1, in all orders.
func TestForOfSmallLists(t *testing.T) {
	sizes := []int{-3, -1, 0, 1, 2, 4, 5}
	lists := [][]int{{}}
	for from := 0; from < len(lists); from++ {
		list := lists[from]
		for n := -4; n <= 7; n++ {
			checkFor(t, list, n)
		}
		for _, n := range []int{math.MinInt, math.MinInt + 1, math.MaxInt, far, far + 1, -far + 1} {
			checkFor(t, list, n)
		}
		if len(list) == 4 {
			continue
		}
		for _, size := range sizes {
			lists = append(lists, append(slices.Clone(list), size))
		}
	}
}

// Promise 6.2: each table that there is, at each size, one below it and one above it.
func TestForOfTables(t *testing.T) {
	for _, list := range tables(t) {
		for _, size := range list {
			for n := size - 1; n <= size+1; n++ {
				checkFor(t, list, n)
			}
		}
		for _, n := range []int{-1, 0, 1, 40, 512, 513, 2000} {
			checkFor(t, list, n)
		}
	}
}

// Promise 6.2: each count of bytes of a few tables.
func TestForOfEachCount(t *testing.T) {
	for _, f := range [][2]int{{2, 1}, {4, 1}, {3, 2}, {5, 4}, {101, 100}} {
		list, _ := Table(f[0], f[1])
		for n := -3; n <= 1100; n++ {
			checkFor(t, list, n)
		}
	}
}

// Promise 6.2: lists that are longer than any table; the number of a size has no end.
func TestForOfLongLists(t *testing.T) {
	const many = 1<<16 + 10
	rising := near(1, many)
	for _, n := range []int{-1, 0, 1, 2, 8, 9, 128, 255, 256, 257, 1024, 1025, 1<<15 - 1, 1 << 15, 1<<15 + 1, 1<<16 - 1, 1 << 16, 1<<16 + 1, many, many + 1} {
		checkFor(t, rising, n)
	}
	last := make([]int, many)
	last[many-1] = 7
	for _, n := range []int{-1, 0, 1, 7, 8} {
		checkFor(t, last, n)
	}
}

// perPageAsTold is how often a size goes into a page, told by taking it away.
func perPageAsTold(size int) int {
	n := 0
	if size >= 1 {
		for rest := 1024; rest >= size; rest -= size {
			n++
		}
	}
	return n
}

// checkSize holds what PerPage and Waste answer against what they are to answer.
func checkSize(t *testing.T, size int) {
	t.Helper()
	n := perPageAsTold(size)
	waste := 1024
	for range n {
		waste -= size
	}
	if got := PerPage(size); got != n {
		t.Errorf("PerPage(%d): %d, not %d", size, got, n)
	}
	if got := Waste(size); got != waste {
		t.Errorf("Waste(%d): %d, not %d", size, got, waste)
	}
}

// Promise 6.2: how many chunks of a size a page has, and what they leave, at the edges.
func TestPerPageAndWasteAtEdges(t *testing.T) {
	for _, c := range []struct{ size, n, waste int }{
		{0, 0, 1024}, {-1, 0, 1024}, {-2, 0, 1024}, {-64, 0, 1024}, {-1024, 0, 1024}, {-1025, 0, 1024},
		{1, 1024, 0}, {2, 512, 0}, {3, 341, 1}, {4, 256, 0}, {7, 146, 2}, {8, 128, 0}, {64, 16, 0}, {65, 15, 49}, {72, 14, 16}, {80, 12, 64}, {88, 11, 56}, {96, 10, 64},
		{144, 7, 16}, {216, 4, 160}, {256, 4, 0}, {328, 3, 40}, {341, 3, 1}, {342, 2, 340}, {496, 2, 32}, {511, 2, 2}, {512, 2, 0}, {513, 1, 511},
		{1000, 1, 24}, {1023, 1, 1}, {1024, 1, 0}, {1025, 0, 1024}, {1026, 0, 1024}, {2048, 0, 1024}, {far, 0, 1024}, {far + 64, 0, 1024}, {-far + 64, 0, 1024},
		{math.MaxInt, 0, 1024}, {math.MaxInt - 1, 0, 1024}, {math.MinInt, 0, 1024}, {math.MinInt + 1, 0, 1024}, {1 << 62, 0, 1024},
	} {
		if n, waste := PerPage(c.size), Waste(c.size); n != c.n || waste != c.waste {
			t.Errorf("size %d: %d in a page, waste %d, not %d, waste %d", c.size, n, waste, c.n, c.waste)
		}
	}
}

// Promise 6.2: each size near those of a page, and those at the ends of their type.
func TestPerPageAndWaste(t *testing.T) {
	for size := -2100; size <= 2100; size++ {
		checkSize(t, size)
	}
	for _, size := range ends {
		checkSize(t, size)
	}
}

// Promise 6.3: sizes of each table rise, are multiples of 8, from 64 to 1024; there are 2 to 8.
func TestSizesOfTables(t *testing.T) {
	seen := map[int]int{}
	for _, list := range tables(t) {
		n := len(list)
		seen[n]++
		if n < 2 || n > 8 {
			t.Fatalf("%v: %d sizes", list, n)
		}
		if list[0] != 64 || list[n-1] != 1024 || list[n-2] > 512 {
			t.Errorf("%v: not from 64 to 1024, with what is at most half a page ahead of that", list)
		}
		for i, size := range list {
			if size%8 != 0 || size < 64 || size > 1024 || i > 0 && size <= list[i-1] {
				t.Errorf("%v: size %d", list, size)
			}
			if c := PerPage(size); c < 1 || c > 16 || Waste(size) < 0 || Waste(size) >= size || c*size+Waste(size) != 1024 {
				t.Errorf("%v: %d chunks of size %d in a page, waste %d", list, c, size, Waste(size))
			}
		}
	}
	if seen[3] == 0 || seen[8] == 0 {
		t.Errorf("how many tables have so many sizes: %v", seen)
	}
}

// Promise 6.3: what For is of fewer bytes is not above, in each table, and in lists that do not rise.
func TestForOfFewerBytes(t *testing.T) {
	lists := append(tables(t), []int{1024, 144, 64}, []int{64, 1024, 96, 1025}, []int{-1, 7, 3, 0, 900}, []int{0, 0, 1, 1, 2}, []int{512})
	for _, list := range lists {
		before, refused := 0, false
		for n := range 1030 {
			class, e := For(list, n)
			switch {
			case e == api.OK && (refused || class < before):
				t.Fatalf("For(%v, %d): %d, but of fewer bytes %d (refused: %t)", list, n, class, before, refused)
			case e == api.OK:
				before = class
			case e == api.ErrLong:
				refused = true
			default:
				t.Fatalf("For(%v, %d): error %d", list, n, e)
			}
		}
		if !refused {
			t.Errorf("For(%v): nothing is too long", list)
		}
	}
}
