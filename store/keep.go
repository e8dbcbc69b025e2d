package store

import (
	"cmp"
	"slices"

	"tallboy/api"
	"tallboy/assoc"
	"tallboy/classes"
	"tallboy/item"
	"tallboy/segments"
)

// Page is a page's class (below nought: it is free), and its bytes.
type Page struct {
	Class int
	Bytes string
}

// allBits is all that an item's FBits may have.
const allBits = segments.Linked | segments.Fetched | segments.Active

// root is an item that was found.
type root struct {
	places []int
	key    string
	cas    uint64
}

// Raw is all pages, where linked items begin, and the number of what was laid in.
func (s *Store) Raw() ([]Page, []int, uint64) {
	pages := make([]Page, s.arena.Pages())
	for i := range pages {
		// No error: the page is there; a free one has no bytes to be read.
		pages[i].Class, _ = s.arena.Owner(i)
		b, _ := s.arena.Read(i*api.PageSize, api.PageSize)
		pages[i].Bytes = string(b)
	}
	roots := s.table.All()
	slices.Sort(roots)
	return pages, roots, s.laid
}

// Recover is the store that pages make, with items at some addresses, and how many were found there.
func Recover(pages []Page, roots []int, over, under int, laid uint64) (*Store, int, api.Errno) {
	s, e := New(len(pages), over, under)
	if e != api.OK {
		return nil, 0, e
	}
	for _, p := range pages {
		if !s.mayHave(p) {
			return nil, 0, api.ErrField
		}
	}
	s.grant(pages)
	stay := newest(s.found(roots))
	s.freeAllBut(stay)
	s.laid = laid
	s.linkAll(stay)
	return s, len(stay), api.OK
}

// mayHave tells whether a page may be one of the store's.
func (s *Store) mayHave(p Page) bool {
	if p.Class == api.None {
		return p.Bytes == ""
	}
	return s.isClass(p.Class) && len(p.Bytes) == api.PageSize
}

// grant has all pages of a new store granted as they say, with their bytes; all chunks of them are used then.
func (s *Store) grant(pages []Page) {
	// The next page is granted to the class that is asked for a chunk when its
	// list is empty: so each list is emptied again, and a page that is to be
	// free is some class's meanwhile: the last one's, that has one chunk of it.
	last := len(s.sizes) - 1
	for _, p := range pages {
		class := p.Class
		if class == api.None {
			class = last
		}
		for range classes.PerPage(s.sizes[class]) {
			s.slabs.Alloc(class)
		}
	}
	for i, p := range pages {
		if p.Class == api.None {
			s.slabs.Free(i * api.PageSize)
			s.slabs.Release(i)
			continue
		}
		s.arena.Write(i*api.PageSize, []byte(p.Bytes))
	}
}

// found is the items that are found at some addresses, in their order.
func (s *Store) found(roots []int) []root {
	var list []root
	has := map[int]struct{}{}
	for _, at := range roots {
		r, ok := s.foundAt(at, has)
		if !ok {
			continue
		}
		list = append(list, r)
		for _, place := range r.places {
			has[place] = struct{}{}
		}
	}
	return list
}

// foundAt is the item that is found at an address, beside chunks that others have.
func (s *Store) foundAt(at int, others map[int]struct{}) (root, bool) {
	class, e := s.slabs.Class(at)
	if e != api.OK || !s.hasState(at) {
		return root{}, false
	}
	key, e := assoc.Key(s.arena, at)
	if e != api.OK {
		return root{}, false
	}
	// It has no error where the lengths, and the places, have none, and there
	// are as many of these as are needed.
	x, e := item.Read(s.arena, s.sizes, at)
	if e != api.OK {
		return root{}, false
	}
	needs, _ := s.need(x)
	places := s.placesOf(at)
	if needs != class || !s.mayLieIn(places, others) {
		return root{}, false
	}
	return root{places: places, key: key, cas: x.Cas}, true
}

// hasState tells whether a header says in which segment an item is, and how it was used.
func (s *Store) hasState(at int) bool {
	bits := s.field(at, item.FBits)
	return bits <= allBits && bits&segments.Linked != 0 && s.field(at, item.FSeg) <= segments.Cold
}

// mayLieIn tells whether an item may lie in chunks: the further ones are the last class's, none is another one's, or comes twice.
func (s *Store) mayLieIn(places []int, others map[int]struct{}) bool {
	for i, at := range places {
		class, e := s.slabs.Class(at)
		if e != api.OK || i > 0 && class != len(s.sizes)-1 {
			return false
		}
		if _, is := others[at]; is || slices.Contains(places[:i], at) {
			return false
		}
	}
	return true
}

// newest is of items with one key the one that was laid in last, in the order of all.
func newest(all []root) []root {
	best := map[string]int{}
	for i, r := range all {
		if b, ok := best[r.key]; !ok || r.cas > all[b].cas {
			best[r.key] = i
		}
	}
	var list []root
	for i, r := range all {
		if best[r.key] == i {
			list = append(list, r)
		}
	}
	return list
}

// freeAllBut gives all chunks back that are none of some items'.
func (s *Store) freeAllBut(stay []root) {
	has := map[int]struct{}{}
	for _, r := range stay {
		for _, at := range r.places {
			has[at] = struct{}{}
		}
	}
	var all []int
	for page := range s.arena.Pages() {
		// A free page has none.
		chunks, _ := s.slabs.Chunks(page)
		all = append(all, chunks...)
	}
	// From the last one on: what is given back last is the first one of its list.
	for _, at := range slices.Backward(all) {
		if _, is := has[at]; !is {
			s.slabs.Free(at)
		}
	}
}

// linkAll links items as their headers say; the number is not below that of any of them.
func (s *Store) linkAll(stay []root) {
	for _, r := range stay {
		item.Set(s.arena, r.places[0], item.FRefs, 0)
		s.table.Insert(r.places[0])
		s.laid = max(s.laid, r.cas)
	}
	// The eldest first: each one is put ahead of those that are there.
	eldest := slices.SortedFunc(slices.Values(stay), func(r, than root) int {
		return cmp.Or(cmp.Compare(r.cas, than.cas), cmp.Compare(r.places[0], than.places[0]))
	})
	for _, r := range eldest {
		at := r.places[0]
		s.lrus[s.classOf(at)].Put(at, s.field(at, item.FSeg), s.field(at, item.FBits))
	}
}
