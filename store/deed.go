package store

import (
	"slices"

	"belfry/api"
)

// deed does a right change of some kind, and answers the one that undoes it,
// if there is something to undo.
type deed func(*Store, api.Change) (api.Change, bool)

// deedsByKind are the deeds by their changes' kinds.
func deedsByKind() [api.NoTimer + 1]deed {
	return [...]deed{
		api.HasKey:   (*Store).hasKey,
		api.NoKey:    (*Store).noKey,
		api.HasTimer: (*Store).hasTimer,
		api.NoTimer:  (*Store).noTimer,
	}
}

// carryOut does right changes, however much they use, and answers those that
// undo them.
func (s *Store) carryOut(l []api.Change) []api.Change {
	var undo []api.Change
	deeds := deedsByKind()
	for _, c := range l {
		if back, is := deeds[c.Kind](s, c); is {
			undo = append(undo, back)
		}
	}
	slices.Reverse(undo)
	return undo
}

// hasKey gives a key a value.
func (s *Store) hasKey(c api.Change) (api.Change, bool) {
	value, was := s.keys.Put(c.Key, c.Value)
	if !was {
		s.uses(1, len(c.Key)+len(c.Value), 0)
		return api.Change{Kind: api.NoKey, Key: c.Key}, true
	}
	s.uses(0, len(c.Value)-len(value), 0)
	return api.Change{Kind: api.HasKey, Key: c.Key, Value: value}, true
}

// noKey takes a key away.
func (s *Store) noKey(c api.Change) (api.Change, bool) {
	value, was := s.keys.Drop(c.Key)
	if !was {
		return api.Change{}, false
	}
	s.uses(-1, -len(c.Key)-len(value), 0)
	return api.Change{Kind: api.HasKey, Key: c.Key, Value: value}, true
}

// hasTimer lays a timer, as it is.
func (s *Store) hasTimer(c api.Change) (api.Change, bool) {
	t, was := s.timers.Get(c.Timer.Name)
	s.timers.Set(c.Timer)
	s.version = max(s.version, c.Timer.Version+1)
	if !was {
		s.uses(0, 0, 1)
		return api.Change{Kind: api.NoTimer, Key: c.Timer.Name}, true
	}
	return api.Change{Kind: api.HasTimer, Timer: t}, true
}

// noTimer takes a timer away.
func (s *Store) noTimer(c api.Change) (api.Change, bool) {
	t, was := s.timers.Get(c.Key)
	if !was {
		return api.Change{}, false
	}
	s.timers.Drop(c.Key)
	s.uses(0, 0, -1)
	return api.Change{Kind: api.HasTimer, Timer: t}, true
}

// uses adds to the use, which may be too much then.
func (s *Store) uses(keys, room, timers int) {
	s.use.Keys += keys
	s.use.Room += room
	s.use.Timers += timers
}
