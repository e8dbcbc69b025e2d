package store

import (
	"slices"

	"tallboy/api"
	"tallboy/assoc"
	"tallboy/item"
)

// An item that is linked, or loose, lies whole in chunks that are its own: so
// to read it, or a field of it, to take it out of where it is, and to give its
// chunks back has no error.

// field is a field of an item's header.
func (s *Store) field(at, field int) int {
	v, _ := item.Get(s.arena, at, field)
	return v
}

// keyOf is an item's key.
func (s *Store) keyOf(at int) string {
	key, _ := assoc.Key(s.arena, at)
	return key
}

// read is what an item says.
func (s *Store) read(at int) item.Item {
	x, _ := item.Read(s.arena, s.sizes, at)
	return x
}

// placesOf is an item's chunks, the first one first.
func (s *Store) placesOf(at int) []int {
	places, _ := item.Places(s.arena, at)
	return places
}

// classOf is the class of a chunk; of an item's first one it is the item's.
func (s *Store) classOf(at int) int {
	class, _ := s.slabs.Class(at)
	return class
}

// isHeld tells whether somebody holds an item.
func (s *Store) isHeld(at int) bool { return s.field(at, item.FRefs) != 0 }

// isLoose tells whether an item begins at an address that is held, and not linked.
func (s *Store) isLoose(at int) bool {
	_, is := s.loose[at]
	return is
}

// isLinked tells whether a linked item begins at an address.
func (s *Store) isLinked(at int) bool {
	// What lies at any address may look like an item; the table alone knows
	// where the one with that key begins.
	key, e := assoc.Key(s.arena, at)
	if e != api.OK {
		return false
	}
	begins, ok := s.table.Find(key)
	return ok && begins == at
}

// isItem tells whether an item begins at an address.
func (s *Store) isItem(at int) bool { return s.isLoose(at) || s.isLinked(at) }

// items is where all items begin, linked and loose ones, rising.
func (s *Store) items() []int {
	list := s.table.All()
	for at := range s.loose {
		list = append(list, at)
	}
	slices.Sort(list)
	return list
}

// link makes what was written an item, the youngest of its class.
func (s *Store) link(at int) {
	s.table.Insert(at)
	s.lrus[s.classOf(at)].Add(at)
}

// unlink takes an item away; the chunks of one that is held stay its own, until it is let go of.
func (s *Store) unlink(at int) {
	s.table.Delete(s.keyOf(at))
	s.lrus[s.classOf(at)].Drop(at)
	if s.isHeld(at) {
		s.loose[at] = struct{}{}
		return
	}
	s.free(at)
}

// free gives an item's chunks back.
func (s *Store) free(at int) {
	// All places are told ahead: a chunk that is free has another place in its first bytes.
	for _, place := range s.placesOf(at) {
		s.slabs.Free(place)
	}
}

// lay lays an item in for its key; what was dropped for it, and whether there was memory.
func (s *Store) lay(x item.Item) ([]Drop, bool) {
	s.laid++
	x.Cas = s.laid
	places, drops, ok := s.reserveHolding(x)
	if !ok {
		s.laid--
		return drops, false
	}
	s.replace(places, x)
	return drops, true
}

// replace writes an item into chunks that are reserved for it, in place of the one that its key has.
func (s *Store) replace(places []int, x item.Item) {
	// No error: as many chunks are reserved as it needs.
	item.Write(s.arena, s.sizes, places, x)
	if at, ok := s.table.Find(x.Key); ok {
		s.unlink(at)
	}
	s.link(places[0])
}

// reserveHolding reserves for an item, while the one that its key has is held, so that it does not go for it.
func (s *Store) reserveHolding(x item.Item) ([]int, []Drop, bool) {
	at, ok := s.table.Find(x.Key)
	// One that can't be held once more is held by others, and does not go, either.
	if ok && s.Hold(at) == api.OK {
		defer s.Release(at)
	}
	return s.reserve(x)
}

// reserve reserves for an item; what was evicted for it, and whether there was memory.
func (s *Store) reserve(x item.Item) ([]int, []Drop, bool) {
	var drops []Drop
	places, ok := s.gather(x, func(class int) (int, bool) {
		for {
			at, e := s.slabs.Alloc(class)
			if e == api.OK {
				return at, true
			}
			if len(drops) == api.MaxTries {
				return 0, false
			}
			key, e := s.Evict(class)
			if e != api.OK {
				return 0, false
			}
			drops = append(drops, Drop{Key: key, Why: Evicted})
		}
	})
	if !ok {
		class, _ := s.need(x)
		s.counts[class].Failed++
	}
	return places, drops, ok
}

// gather is as many chunks as an item needs, each as ask hands it out; if one is not there, none.
func (s *Store) gather(x item.Item, ask func(class int) (int, bool)) ([]int, bool) {
	// Where it needs more than one, the first one is of the last class, too.
	class, n := s.need(x)
	places := make([]int, 0, n)
	for range n {
		at, ok := ask(class)
		if !ok {
			for _, got := range slices.Backward(places) {
				s.slabs.Free(got)
			}
			return nil, false
		}
		places = append(places, at)
	}
	return places, true
}

// need is an item's class, and how many chunks it takes.
func (s *Store) need(x item.Item) (int, int) {
	// No error: what is laid in has a key, and a value that is not too long,
	// and the last size of each table is a whole page.
	class, more, _ := item.Need(s.sizes, len(x.Key), len(x.Value))
	return class, 1 + more
}
