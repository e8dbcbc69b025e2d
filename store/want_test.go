package store

import (
	"slices"

	"tallboy/api"
	"tallboy/classes"
	"tallboy/digits"
	"tallboy/verb"
)

// size is how many bytes a page has.
const size = 1024

// The codes of results, by their numbers.
const (
	values    = 1
	stored    = 2
	notStored = 3
	exists    = 4
	notFound  = 5
	deleted   = 6
	number    = 7
	noNumber  = 8
	touched   = 9
	done      = 10
	noMemory  = 11
	tooLarge  = 12
)

// thing is an item by the document's words.
type thing struct {
	key, value      string
	flags, ends     uint32
	cas             uint64
	refs            int
	places          []int
	class           int
	fetched, active bool
}

// bits is a linked thing's FBits.
func (x *thing) bits() int {
	n := 1
	if x.fetched {
		n += 2
	}
	if x.active {
		n += 4
	}
	return n
}

// want is a store by the document's words: lists, and no bytes.
type want struct {
	sizes   []int
	owner   []int         // each page's class
	lists   [][]int       // each class's free chunks, the first one first
	segs    [][3][]*thing // each class's linked items, the youngest first
	linked  map[string]*thing
	loose   []*thing
	taken   map[int]bool
	counts  []Count
	laid    uint64
	buckets int
	moved   int // -1: the table does not grow
}

// wantNew is New by the document's words.
func wantNew(pages, over, under int) (*want, api.Errno) {
	if pages < 1 || pages > 32 {
		return nil, 1
	}
	sizes, e := classes.Table(over, under)
	if e != 0 {
		return nil, e
	}
	w := &want{sizes: sizes, lists: make([][]int, len(sizes)), segs: make([][3][]*thing, len(sizes)), linked: map[string]*thing{},
		taken: map[int]bool{}, counts: make([]Count, len(sizes)), buckets: 8, moved: -1}
	w.owner = slices.Repeat([]int{-1}, pages)
	return w, 0
}

// chunks are where a page's begin, told by counting on.
func (w *want) chunks(page int) []int {
	var list []int
	if w.owner[page] < 0 {
		return nil
	}
	n := w.sizes[w.owner[page]]
	for at := page * size; at+n <= (page+1)*size; at += n {
		list = append(list, at)
	}
	return list
}

// class is that of the chunk that begins at an address; -1: none does.
func (w *want) class(at int) int {
	for page, class := range w.owner {
		if slices.Contains(w.chunks(page), at) {
			return class
		}
	}
	return -1
}

// isFree tells whether a chunk is to be free.
func (w *want) isFree(at int) bool {
	class := w.class(at)
	return class >= 0 && slices.Contains(w.lists[class], at)
}

// alloc is slabs' Alloc by the document's words; -1: there is no memory.
func (w *want) alloc(class int) int {
	if len(w.lists[class]) == 0 {
		page := slices.Index(w.owner, -1)
		if page < 0 {
			return -1
		}
		w.owner[page] = class
		w.lists[class] = w.chunks(page)
	}
	at := w.lists[class][0]
	w.lists[class] = slices.Clone(w.lists[class][1:])
	return at
}

// give is slabs' Free by the document's words.
func (w *want) give(at int) {
	class := w.class(at)
	w.lists[class] = slices.Concat([]int{at}, w.lists[class])
}

// keep is slabs' Hold by the document's words.
func (w *want) keep(at int) {
	class := w.class(at)
	i := slices.Index(w.lists[class], at)
	w.lists[class] = slices.Delete(slices.Clone(w.lists[class]), i, i+1)
}

// seg is which segment a linked thing is in, and where it stands there.
func (w *want) seg(x *thing) (int, int) {
	for seg, list := range w.segs[x.class] {
		if i := slices.Index(list, x); i >= 0 {
			return seg, i
		}
	}
	return -1, -1
}

// leave takes a linked thing out of its segment.
func (w *want) leave(x *thing) {
	seg, i := w.seg(x)
	w.segs[x.class][seg] = slices.Delete(slices.Clone(w.segs[x.class][seg]), i, i+1)
}

// enter makes a thing the youngest one of a segment.
func (w *want) enter(x *thing, seg int) {
	w.segs[x.class][seg] = slices.Concat([]*thing{x}, w.segs[x.class][seg])
}

// link links a thing, as the youngest of Hot.
func (w *want) link(x *thing) {
	w.linked[x.key] = x
	x.fetched, x.active = false, false
	w.enter(x, 0)
}

// unlink unlinks a thing.
func (w *want) unlink(x *thing) {
	delete(w.linked, x.key)
	w.leave(x)
	if x.refs > 0 {
		w.loose = append(w.loose, x)
		return
	}
	w.free(x)
}

// free gives a thing's chunks back.
func (w *want) free(x *thing) {
	for _, at := range x.places {
		w.give(at)
	}
}

// at is the thing that begins at an address, linked or loose.
func (w *want) at(at int) *thing {
	for _, x := range w.things() {
		if x.places[0] == at {
			return x
		}
	}
	return nil
}

// with is the thing that a chunk is of.
func (w *want) with(at int) *thing {
	for _, x := range w.things() {
		if slices.Contains(x.places, at) {
			return x
		}
	}
	return nil
}

// things is all things.
func (w *want) things() []*thing {
	list := slices.Clone(w.loose)
	for _, x := range w.linked {
		list = append(list, x)
	}
	return list
}

// victim is segments' Victim by the document's words.
func (w *want) victim(class int) (*thing, api.Errno) {
	var order []*thing
	for _, seg := range []int{2, 1, 0} {
		for _, x := range slices.Backward(w.segs[class][seg]) {
			order = append(order, x)
		}
	}
	if len(order) == 0 {
		return nil, 3
	}
	for _, x := range order[:min(5, len(order))] {
		if x.refs == 0 {
			return x, 0
		}
	}
	return nil, 8
}

// evict is Evict by the document's words.
func (w *want) evict(class int) (string, api.Errno) {
	if class < 0 || class >= len(w.sizes) {
		return "", 1
	}
	x, e := w.victim(class)
	if e != 0 {
		return "", e
	}
	w.unlink(x)
	w.counts[class].Evicted++
	return x.key, 0
}

// need is item.Need by the document's words: the class, and how many chunks in all.
func (w *want) need(key, value int) (int, int) {
	all := 40 + key + value
	for class, n := range w.sizes {
		if n >= all {
			return class, 1
		}
	}
	n, rest := 1, all-1024
	for ; rest > 0; rest -= 1020 {
		n++
	}
	return len(w.sizes) - 1, n
}

// reserve reserves chunks by the document's words; what was evicted, and whether there was memory.
func (w *want) reserve(key, value string) ([]int, []Drop, bool) {
	class, n := w.need(len(key), len(value))
	var places []int
	var drops []Drop
	for len(places) < n {
		at := w.alloc(class)
		if at >= 0 {
			places = append(places, at)
			continue
		}
		evicted, e := "", api.Errno(8)
		if len(drops) < 5 {
			evicted, e = w.evict(class)
		}
		if e != 0 {
			w.counts[class].Failed++
			for _, at := range slices.Backward(places) {
				w.give(at)
			}
			return nil, drops, false
		}
		drops = append(drops, Drop{evicted, 1})
	}
	return places, drops, true
}

// lay lays in by the document's words.
func (w *want) lay(key, value string, flags, ends uint32) ([]Drop, bool) {
	old := w.linked[key]
	if old != nil {
		old.refs++
	}
	places, drops, ok := w.reserve(key, value)
	if old != nil {
		old.refs--
	}
	if !ok {
		return drops, false
	}
	if old != nil {
		w.unlink(old)
	}
	w.laid++
	class, _ := w.need(len(key), len(value))
	w.link(&thing{key: key, value: value, flags: flags, ends: ends, cas: w.laid, places: places, class: class})
	return drops, true
}

// find is Find by the document's words; nil: there is none.
func (w *want) find(key string, now int64) *thing {
	x := w.linked[key]
	if x != nil && x.ends != 0 && int64(x.ends) <= now {
		w.unlink(x)
		w.counts[x.class].Expired++
		return nil
	}
	return x
}

// bump is segments' Bump by the document's words.
func (x *thing) bump() {
	x.active = x.active || x.fetched
	x.fetched = true
}

// wantEnds is clock.Ends of a second that is one, by the document's words.
func wantEnds(now, exp int64) uint32 {
	switch {
	case exp == 0:
		return 0
	case exp < 0:
		return 1
	case exp <= 2592000:
		return uint32(now + exp)
	}
	return uint32(min(exp, 1<<32-1))
}

// do is Do by the document's words.
func (w *want) do(c api.Command, now int64) (verb.Result, []Drop, api.Errno) {
	if e := verb.Check(c); e != 0 {
		return verb.Result{}, nil, e
	}
	if now < 1 || now > 1<<31-1 {
		return verb.Result{}, nil, 1
	}
	if c.Kind <= 4 {
		return w.reads(c, now), nil, 0
	}
	if c.Kind == 15 {
		for _, key := range w.keys() {
			w.unlink(w.linked[key])
		}
		return verb.Result{Code: done}, nil, 0
	}
	x := w.find(c.Keys[0], now)
	if c.Kind == 12 || c.Kind == 13 {
		return w.counted(c, x)
	}
	code, drops := w.one(c, x, now)
	return verb.Result{Code: code}, drops, 0
}

// keys is Keys by the document's words.
func (w *want) keys() []string {
	var list []string
	for key := range w.linked {
		list = append(list, key)
	}
	slices.Sort(list)
	return list
}

// reads is what comes of a Get, a Gets, a Gat or a Gats.
func (w *want) reads(c api.Command, now int64) verb.Result {
	r := verb.Result{Code: values}
	for _, key := range c.Keys {
		x := w.find(key, now)
		if x == nil {
			continue
		}
		r.Hits = append(r.Hits, verb.Hit{Key: key, Flags: x.flags, Value: x.value, Cas: x.cas})
		if c.Kind >= 3 {
			x.ends = wantEnds(now, c.Exp)
		}
		x.bump()
	}
	return r
}

// one is what comes of a command with one key that tells no number.
func (w *want) one(c api.Command, x *thing, now int64) (int, []Drop) {
	key := c.Keys[0]
	switch {
	case c.Kind == 6 && x != nil, c.Kind >= 7 && c.Kind <= 9 && x == nil:
		return notStored, nil
	case c.Kind >= 10 && x == nil:
		return notFound, nil
	case c.Kind == 10 && x.cas != c.Cas:
		return exists, nil
	case (c.Kind == 8 || c.Kind == 9) && len(x.value)+len(c.Value) > 2000:
		return tooLarge, nil
	case c.Kind == 11:
		w.unlink(x)
		return deleted, nil
	case c.Kind == 14:
		x.ends = wantEnds(now, c.Exp)
		x.bump()
		return touched, nil
	}
	value, flags, ends := c.Value, c.Flags, wantEnds(now, c.Exp)
	switch c.Kind {
	case 8:
		value, flags, ends = x.value+c.Value, x.flags, x.ends
	case 9:
		value, flags, ends = c.Value+x.value, x.flags, x.ends
	}
	drops, ok := w.lay(key, value, flags, ends)
	if ok {
		return stored, drops
	}
	if c.Kind == 5 && x != nil {
		w.unlink(x)
		drops = append(drops, Drop{key, 3})
	}
	return noMemory, drops
}

// counted is what comes of an Incr or a Decr.
func (w *want) counted(c api.Command, x *thing) (verb.Result, []Drop, api.Errno) {
	if x == nil {
		return verb.Result{Code: notFound}, nil, 0
	}
	v, e := digits.Parse(x.value)
	if e != 0 {
		return verb.Result{Code: noNumber}, nil, 0
	}
	if c.Kind == 12 {
		v += c.Delta
	} else if c.Delta > v {
		v = 0
	} else {
		v -= c.Delta
	}
	drops, ok := w.lay(x.key, digits.Text(v), x.flags, x.ends)
	if !ok {
		return verb.Result{Code: noMemory}, drops, 0
	}
	return verb.Result{Code: number, N: v}, drops, 0
}

// hold is Hold by the document's words.
func (w *want) hold(at int) api.Errno {
	x := w.at(at)
	switch {
	case x == nil:
		return 3
	case x.refs == 250:
		return 2
	}
	x.refs++
	return 0
}

// release is Release by the document's words.
func (w *want) release(at int) api.Errno {
	x := w.at(at)
	switch {
	case x == nil:
		return 3
	case x.refs == 0:
		return 5
	}
	x.refs--
	if i := slices.Index(w.loose, x); i >= 0 && x.refs == 0 {
		w.loose = slices.Delete(w.loose, i, i+1)
		w.free(x)
	}
	return 0
}

// juggle is Juggle by the document's words.
func (w *want) juggle(class int) bool {
	if class < 0 || class >= len(w.sizes) {
		return false
	}
	hot, warm, cold := len(w.segs[class][0]), len(w.segs[class][1]), len(w.segs[class][2])
	n := hot + warm + cold
	last := func(seg int) *thing { return w.segs[class][seg][len(w.segs[class][seg])-1] }
	var x *thing
	switch {
	case 5*hot > n:
		x = last(0)
	case 5*warm > 2*n:
		x = last(1)
	case cold > 0 && last(2).active:
		x = last(2)
	default:
		return false
	}
	to := 2
	if x.active {
		to = 1
	}
	w.leave(x)
	w.enter(x, to)
	x.active = false
	return true
}

// grow is Grow by the document's words.
func (w *want) grow() bool {
	switch {
	case w.moved >= 0:
		w.moved++
		if w.moved == w.buckets {
			w.buckets, w.moved = 2*w.buckets, -1
		}
		return true
	case 2*len(w.linked) > 3*w.buckets && w.buckets < 64:
		w.moved = 0
		return true
	}
	return false
}

// status is what a chunk is, by the document's words.
func (w *want) status(at int) int {
	x := w.with(at)
	switch {
	case w.taken[at]:
		return 4
	case x == nil:
		return 0
	case x.places[0] != at:
		return 3
	case slices.Contains(w.loose, x):
		return 2
	}
	return 1
}

// pageError is what is to be told of a page's number, ahead of all else.
func (w *want) pageError(page int) api.Errno {
	switch {
	case page < 0 || page >= len(w.owner):
		return 1
	case w.owner[page] < 0:
		return 5
	}
	return 0
}

// vacate is Vacate by the document's words.
func (w *want) vacate(at int) (int, string, api.Errno) {
	x := w.with(at)
	switch {
	case w.class(at) < 0:
		return 0, "", 1
	case w.taken[at]:
		return 5, "", 0
	case w.isFree(at):
		w.keep(at)
		w.taken[at] = true
		return 1, "", 0
	case x.refs > 0:
		return 4, "", 0
	}
	class, n := w.need(len(x.key), len(x.value))
	var places []int
	for len(places) < n {
		place := w.alloc(class)
		if place < 0 {
			for _, place := range slices.Backward(places) {
				w.give(place)
			}
			w.unlink(x)
			w.counts[x.class].Moved++
			w.keep(at)
			w.taken[at] = true
			return 3, x.key, 0
		}
		if place/size == at/size {
			w.taken[place] = true
			continue
		}
		places = append(places, place)
	}
	w.unlink(x)
	w.link(&thing{key: x.key, value: x.value, flags: x.flags, ends: x.ends, cas: x.cas, places: places, class: class})
	w.keep(at)
	w.taken[at] = true
	return 2, "", 0
}

// hand is Give by the document's words.
func (w *want) hand(page, class int) api.Errno {
	if e := w.pageError(page); e != 0 {
		return e
	}
	for _, at := range w.chunks(page) {
		if !w.taken[at] {
			return 8
		}
	}
	if class < 0 || class >= len(w.sizes) {
		return 1
	}
	if slices.Contains(w.owner[:page], -1) {
		return 5
	}
	for _, at := range w.chunks(page) {
		delete(w.taken, at)
	}
	w.owner[page] = class
	w.lists[class] = slices.Concat(w.chunks(page), w.lists[class])
	return 0
}

// away is Leave by the document's words.
func (w *want) away(page int) api.Errno {
	if e := w.pageError(page); e != 0 {
		return e
	}
	for _, at := range w.chunks(page) {
		if w.taken[at] {
			delete(w.taken, at)
			w.give(at)
		}
	}
	return 0
}
