package store

import (
	"fmt"
	"math/rand/v2"
	"slices"
	"strconv"
	"strings"
	"testing"

	"tallboy/api"
)

// dice are bytes from which a walk takes what it does next.
type dice struct {
	b []byte
	n int // how many were taken
}

// next is a number from 0 to n - 1; n is at most 65536. Behind the last byte it is 0.
func (d *dice) next(n int) int {
	v := 0
	for range 2 {
		v *= 256
		if d.n < len(d.b) {
			v += int(d.b[d.n])
		}
		d.n++
	}
	return v % n
}

// over tells whether all bytes were taken.
func (d *dice) over() bool { return d.n >= len(d.b) }

// rolled are so many dice without order, others for each seed.
func rolled(seed uint64, n int) *dice {
	r := rand.New(rand.NewPCG(seed, 20))
	b := make([]byte, n)
	for i := range b {
		b[i] = byte(r.Uint32())
	}
	return &dice{b: b}
}

// walk is a store at which things are done without order, and what they are done with.
type walk struct {
	*both
	d           *dice
	now         int64
	over, under int
	keys        []string
	held        []int
}

// begin is a walk over a store of a few pages.
func begin(t *testing.T, d *dice) *walk {
	t.Helper()
	factors := [][2]int{{3, 2}, {2, 1}, {4, 1}, {101, 100}, {5, 4}}
	f := factors[d.next(len(factors))]
	pages := []int{1, 2, 3, 4, 5, 7, 32}[d.next(7)]
	w := &walk{both: made(t, pages, f[0], f[1]), d: d, now: 1000, over: f[0], under: f[1]}
	for i := range []int{5, 20, 60, 200}[d.next(4)] {
		key := "k" + strconv.Itoa(i)
		switch i % 7 {
		case 3:
			key += strings.Repeat("~", 32-len(key))
		case 5:
			key += strings.Repeat("!", i%20)
		}
		w.keys = append(w.keys, key)
	}
	return w
}

// key is one of the walk's.
func (w *walk) key() string { return w.keys[w.d.next(len(w.keys))] }

// value is one of some length; often just of a class's size, or beside it.
func (w *walk) value(key string) string {
	n := 0
	switch w.d.next(10) {
	case 0, 1, 2, 3:
		n = w.d.next(20)
	case 4, 5:
		sizes := w.w.sizes
		n = sizes[w.d.next(len(sizes))] - 40 - len(key) + w.d.next(3) - 1
	case 6:
		n = w.d.next(500)
	case 7:
		n = 900 + w.d.next(1101)
	case 8:
		return strconv.Itoa(w.d.next(65536))
	case 9:
		n = []int{2000, 1999, 2001, 1024, 1020, 0, 952, 984}[w.d.next(8)]
	}
	n = max(n, 0)
	// Others for each call, so that no old bytes are taken for new ones.
	mark := strconv.Itoa(w.d.n) + "."
	return strings.Repeat(mark, n/len(mark)+1)[:n]
}

// exp is how long something is to be kept.
func (w *walk) exp() int64 {
	return []int64{0, 0, 0, 0, 0, 1, 2, 5, 30, -1, 2592000, 2592001, 3000000, w.now + 1, 1 << 40}[w.d.next(15)]
}

// command is one without order, mostly a right one.
func (w *walk) command() api.Command {
	kinds := []int{5, 5, 5, 5, 5, 5, 1, 2, 3, 4, 6, 7, 8, 9, 10, 11, 12, 13, 14}
	c := api.Command{Kind: kinds[w.d.next(len(kinds))], Keys: []string{w.key()}}
	if w.d.next(300) == 0 {
		return api.Command{Kind: 15, Quiet: w.d.next(2) == 0}
	}
	switch c.Kind {
	case 1, 2, 3, 4:
		for range w.d.next(4) {
			c.Keys = append(c.Keys, w.key())
		}
		if c.Kind >= 3 {
			c.Exp = w.exp()
		}
	case 5, 6, 7, 10:
		c.Value, c.Exp, c.Flags = w.value(c.Keys[0]), w.exp(), uint32(w.d.next(65536))<<16
		if x := w.w.linked[c.Keys[0]]; c.Kind == 10 && x != nil {
			c.Cas = x.cas + uint64(w.d.next(4)/3)
		}
	case 8, 9:
		c.Value = w.value(c.Keys[0])
	case 12, 13:
		c.Delta = []uint64{0, 1, 7, 65536, 1<<64 - 1}[w.d.next(5)]
	case 14:
		c.Exp = w.exp()
	}
	if w.d.next(60) == 0 {
		c.Keys = append(c.Keys, "k")
	}
	return c
}

// address is one of a chunk, mostly.
func (w *walk) address() int {
	page := w.d.next(len(w.w.owner))
	chunks := w.w.chunks(page)
	switch n := w.d.next(20); {
	case n == 0:
		return farAways[w.d.next(len(farAways))]
	case n == 1 || len(chunks) == 0:
		return w.d.next(len(w.w.owner) * size)
	}
	return chunks[w.d.next(len(chunks))]
}

// page is the number of one, mostly.
func (w *walk) page() int {
	if w.d.next(15) == 0 {
		return wrongPages[w.d.next(len(wrongPages))]
	}
	return w.d.next(len(w.w.owner))
}

// class is one, mostly.
func (w *walk) class() int {
	if w.d.next(15) == 0 {
		return wrongClasses[w.d.next(len(wrongClasses))]
	}
	return w.d.next(len(w.w.sizes))
}

// step does one thing.
func (w *walk) step() {
	w.t.Helper()
	switch n := w.d.next(100); {
	case n < 60:
		now := w.now
		if w.d.next(100) == 0 {
			now = []int64{0, -1, 1 << 31, 1<<32 + 1000}[w.d.next(4)]
		}
		w.do(w.command(), now)
	case n < 63:
		w.find(w.key(), w.now)
	case n < 65:
		w.evict(w.class())
	case n < 70:
		w.holdOne()
	case n < 75:
		w.releaseOne()
	case n < 81:
		w.juggle(w.class())
	case n < 86:
		w.grow()
	case n < 91:
		w.vacate(w.address())
	case n < 94:
		w.vacatePage(w.page())
	case n < 95:
		w.give(w.page(), w.class())
	case n < 97:
		w.leave(w.page())
	case n < 98:
		w.now += int64(w.d.next(3))
	case n < 99:
		w.now += int64(w.d.next(40))
	default:
		w.restart()
	}
}

// holdOne holds what begins at an address, mostly an item.
func (w *walk) holdOne() {
	w.t.Helper()
	at := w.address()
	if x := w.w.linked[w.key()]; x != nil && w.d.next(3) > 0 {
		at = x.places[0]
	}
	if w.w.at(at) != nil {
		w.held = append(w.held, at)
	}
	w.hold(at)
}

// releaseOne lets go of what begins at an address, mostly of an item that is held.
func (w *walk) releaseOne() {
	w.t.Helper()
	if len(w.held) == 0 || w.d.next(10) == 0 {
		w.release(w.address())
		return
	}
	i := w.d.next(len(w.held))
	w.release(w.held[i])
	w.held = slices.Delete(w.held, i, i+1)
}

// vacatePage vacates chunk by chunk of a page, and gives it away, or back.
func (w *walk) vacatePage(page int) {
	w.t.Helper()
	if w.w.pageError(page) == 0 {
		for _, at := range w.w.chunks(page) {
			w.vacate(at)
		}
	}
	w.give(page, w.class())
	w.leave(page)
}

// restart keeps the store over an end.
func (w *walk) restart() {
	w.t.Helper()
	pages, roots, laid := w.s.Raw()
	w.both = w.recovered(pages, roots, w.over, w.under, laid)
	w.held = nil
}

// all does steps until the dice are over, and looks at all every few steps.
func (w *walk) all(every int) {
	w.t.Helper()
	for i := 0; !w.d.over(); i++ {
		w.step()
		if i%every == 0 {
			w.same(fmt.Sprintf("step %d", i))
			w.sameModel(w.now)
		}
	}
	w.same("the last step")
	w.sameModel(w.now)
}

// TestWalks (20.1, 20.2, 20.3, 20.4, 20.5, 20.6): things that are done without order come to what the words say, and what the model says.
func TestWalks(t *testing.T) {
	for seed := range uint64(400) {
		t.Run(strconv.Itoa(int(seed)), func(t *testing.T) {
			t.Parallel()
			begin(t, rolled(seed, 6000)).all(7)
		})
	}
}

// FuzzWalks (20.4): the same, with what a fuzzer rolls.
func FuzzWalks(f *testing.F) {
	for seed := range uint64(8) {
		f.Add(rolled(1000+seed, 1500).b)
	}
	f.Fuzz(func(t *testing.T, b []byte) {
		if len(b) > 4000 {
			return
		}
		begin(t, &dice{b: b}).all(5)
	})
}
