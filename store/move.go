package store

import (
	"slices"

	"tallboy/api"
	"tallboy/item"
)

// Status is what a chunk is.
const (
	Free   = 0
	Linked = 1
	Loose  = 2
	Member = 3
	Taken  = 4
)

// What became of a chunk that was to be vacated.
const (
	WasFree = 1
	Rescued = 2
	Dropped = 3
	Busy    = 4
	WasDone = 5
)

// use is what a chunk is, and how often it was found to be something.
type use struct{ status, times int }

// Chunks is what each chunk of a page is; an error: it is not one thing.
func (s *Store) Chunks(page int) ([]int, api.Errno) {
	chunks, e := s.slabs.Chunks(page)
	if e != api.OK {
		return nil, e
	}
	uses := s.uses()
	list := make([]int, len(chunks))
	for i, at := range chunks {
		u := uses[at]
		if s.slabs.IsFree(at) {
			u = use{Free, u.times + 1}
		}
		if u.times != 1 {
			return nil, api.ErrState
		}
		list[i] = u.status
	}
	return list, api.OK
}

// uses is what chunks are that are not free.
func (s *Store) uses() map[int]use {
	uses := map[int]use{}
	note := func(at, status int) { uses[at] = use{status, uses[at].times + 1} }
	for _, at := range s.items() {
		status := Linked
		if s.isLoose(at) {
			status = Loose
		}
		for _, place := range s.placesOf(at) {
			note(place, status)
			status = Member
		}
	}
	for at := range s.taken {
		note(at, Taken)
	}
	return uses
}

// Vacate takes a chunk for a page that moves; whose item went for it.
func (s *Store) Vacate(at int) (int, string, api.Errno) {
	if _, e := s.slabs.Class(at); e != api.OK {
		return 0, "", e
	}
	if s.isTaken(at) {
		return WasDone, "", api.OK
	}
	if s.slabs.IsFree(at) {
		s.take(at)
		return WasFree, "", api.OK
	}
	begins, ok := s.itemWith(at)
	// A chunk that is used, and not taken, is an item's.
	if !ok || s.isHeld(begins) {
		return Busy, "", api.OK
	}
	what, key := s.vacate(at, begins)
	return what, key, api.OK
}

// Give gives a page whose chunks are all taken to another class.
func (s *Store) Give(page, class int) api.Errno {
	chunks, e := s.slabs.Chunks(page)
	if e != api.OK {
		return e
	}
	for _, at := range chunks {
		if !s.isTaken(at) {
			return api.ErrBusy
		}
	}
	if e := s.slabs.Move(page, class); e != api.OK {
		return e
	}
	for _, at := range chunks {
		delete(s.taken, at)
	}
	return api.OK
}

// Leave gives a page's taken chunks back to its class.
func (s *Store) Leave(page int) api.Errno {
	chunks, e := s.slabs.Chunks(page)
	if e != api.OK {
		return e
	}
	for _, at := range chunks {
		if s.isTaken(at) {
			delete(s.taken, at)
			s.slabs.Free(at)
		}
	}
	return api.OK
}

// take makes a chunk that is free a taken one.
func (s *Store) take(at int) {
	// No error: it is free.
	s.slabs.Hold(at)
	s.taken[at] = struct{}{}
}

// itemWith is where the item begins that a chunk is of.
func (s *Store) itemWith(at int) (int, bool) {
	for _, begins := range s.items() {
		if slices.Contains(s.placesOf(begins), at) {
			return begins, true
		}
	}
	return 0, false
}

// vacate takes a chunk from its item, that nobody holds: it is laid in elsewhere, or dropped.
func (s *Store) vacate(at, begins int) (int, string) {
	x := s.read(begins)
	places, ok := s.reserveBeside(x, at/api.PageSize)
	if ok {
		// Its key finds the item that is to go, as it is linked: nobody holds it.
		s.replace(places, x)
		s.take(at)
		return Rescued, ""
	}
	s.unlink(begins)
	s.counts[s.classOf(begins)].Moved++
	s.take(at)
	return Dropped, x.Key
}

// reserveBeside reserves for an item outside of a page, without evicting anything.
func (s *Store) reserveBeside(x item.Item, page int) ([]int, bool) {
	return s.gather(x, func(class int) (int, bool) {
		for {
			at, e := s.slabs.Alloc(class)
			if e != api.OK {
				return 0, false
			}
			if at/api.PageSize != page {
				return at, true
			}
			// It would have to be vacated again: so it is taken at once.
			s.taken[at] = struct{}{}
		}
	})
}
