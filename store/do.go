package store

import (
	"tallboy/api"
	"tallboy/clock"
	"tallboy/digits"
	"tallboy/item"
	"tallboy/verb"
)

// job is a command with one key, and what it is done with.
type job struct {
	api.Command
	key string
	at  int       // where the key's item begins, if has
	was item.Item // what it says, if has
	has bool
	end uint32 // the second at which ends what it lays in anew, or touches
}

// Do does a command at a second; what was dropped for it.
func (s *Store) Do(c api.Command, now int64) (verb.Result, []Drop, api.Errno) {
	if e := verb.Check(c); e != api.OK {
		return verb.Result{}, nil, e
	}
	end, e := clock.Ends(now, c.Exp)
	if e != api.OK {
		return verb.Result{}, nil, e
	}
	switch c.Kind {
	case api.Get, api.Gets, api.Gat, api.Gats:
		return verb.Result{Code: verb.Values, Hits: s.hits(c, now, end)}, nil, api.OK
	case api.Flush:
		s.flush()
		return verb.Result{Code: verb.Done}, nil, api.OK
	}
	r, drops := s.one(s.jobOf(c, now, end))
	return r, drops, api.OK
}

// hits is what a command that reads tells; of a Gat and a Gats each one ends anew.
func (s *Store) hits(c api.Command, now int64, end uint32) []verb.Hit {
	var hits []verb.Hit
	for _, key := range c.Keys {
		// Key by key: one that comes again finds the end that was set for it ahead.
		at, ok := s.Find(key, now)
		if !ok {
			continue
		}
		x := s.read(at)
		hits = append(hits, verb.Hit{Key: key, Flags: x.Flags, Value: x.Value, Cas: x.Cas})
		if c.Kind == api.Gat || c.Kind == api.Gats {
			s.touch(at, end)
		}
		s.bump(at)
	}
	return hits
}

// flush takes all items away.
func (s *Store) flush() {
	for _, key := range s.Keys() {
		if at, ok := s.table.Find(key); ok {
			s.unlink(at)
		}
	}
}

// jobOf is what a command with one key is done with.
func (s *Store) jobOf(c api.Command, now int64, end uint32) job {
	j := job{Command: c, key: c.Keys[0], end: end}
	j.at, j.has = s.Find(j.key, now)
	if j.has {
		j.was = s.read(j.at)
	}
	return j
}

// one does a command with one key.
func (s *Store) one(j job) (verb.Result, []Drop) {
	switch j.Kind {
	case api.Delete, api.Touch:
		return verb.Result{Code: s.change(j)}, nil
	case api.Incr, api.Decr:
		return s.count(j)
	case api.Append, api.Prepend:
		code, drops := s.join(j)
		return verb.Result{Code: code}, drops
	}
	code, drops := s.put(j)
	return verb.Result{Code: code}, drops
}

// change does a Delete or a Touch.
func (s *Store) change(j job) int {
	switch {
	case !j.has:
		return verb.NotFound
	case j.Kind == api.Delete:
		s.unlink(j.at)
		return verb.Deleted
	}
	s.touch(j.at, j.end)
	s.bump(j.at)
	return verb.Touched
}

// put does a Set, an Add, a Replace or a Cas.
func (s *Store) put(j job) (int, []Drop) {
	if code := refusal(j); code != 0 {
		return code, nil
	}
	drops, ok := s.lay(item.Item{Key: j.key, Value: j.Value, Flags: j.Flags, Exp: j.end})
	if ok {
		return verb.Stored, drops
	}
	if j.Kind == api.Set && j.has {
		// Behind a Set nobody may read what was there ahead of it.
		s.unlink(j.at)
		drops = append(drops, Drop{Key: j.key, Why: Failed})
	}
	return verb.NoMemory, drops
}

// refusal is the code of what keeps a Set, an Add, a Replace or a Cas from being laid in; nought: nothing does.
func refusal(j job) int {
	switch {
	case j.Kind == api.Add && j.has, j.Kind == api.Replace && !j.has:
		return verb.NotStored
	case j.Kind == api.Cas && !j.has:
		return verb.NotFound
	case j.Kind == api.Cas && j.was.Cas != j.Cas:
		return verb.Exists
	}
	return 0
}

// join does an Append or a Prepend.
func (s *Store) join(j job) (int, []Drop) {
	switch {
	case !j.has:
		return verb.NotStored, nil
	case len(j.was.Value)+len(j.Value) > api.MaxValue:
		return verb.TooLarge, nil
	}
	x := j.was
	if j.Kind == api.Append {
		x.Value += j.Value
	} else {
		x.Value = j.Value + x.Value
	}
	drops, ok := s.lay(x)
	if !ok {
		return verb.NoMemory, drops
	}
	return verb.Stored, drops
}

// count does an Incr or a Decr.
func (s *Store) count(j job) (verb.Result, []Drop) {
	if !j.has {
		return verb.Result{Code: verb.NotFound}, nil
	}
	v, e := digits.Parse(j.was.Value)
	if e != api.OK {
		return verb.Result{Code: verb.NoNumber}, nil
	}
	if j.Kind == api.Incr {
		v += j.Delta
	} else {
		v -= min(v, j.Delta)
	}
	x := j.was
	x.Value = digits.Text(v)
	drops, ok := s.lay(x)
	if !ok {
		return verb.Result{Code: verb.NoMemory}, drops
	}
	return verb.Result{Code: verb.Number, N: v}, drops
}

// touch lets an item end at another second.
func (s *Store) touch(at int, end uint32) {
	// No error: it is linked, and the field has as many bits.
	item.Set(s.arena, at, item.FExp, int(end))
}

// bump notes that an item was used.
func (s *Store) bump(at int) {
	// No error: it is linked, and so in its class's segments.
	s.lrus[s.classOf(at)].Bump(at)
}
