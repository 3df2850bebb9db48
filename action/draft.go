package action

import (
	"belfry/api"
	"belfry/trie"
)

// write is what a key is to be: a value, or gone.
type write struct {
	key, value string
	is         bool
}

// draft is what steps will have done to a trie, which stays as it is until
// all of them are known to have no error.
type draft struct {
	trie      *trie.Trie
	writes    []write
	cancelled []string
}

// deed is what a step of some kind does.
type deed func(*draft, api.Step) api.Errno

// deedsByKind are the deeds by their steps' kinds.
func deedsByKind() [api.Cancel + 1]deed {
	return [...]deed{
		api.Put:    (*draft).put,
		api.Drop:   (*draft).drop,
		api.Add:    (*draft).add,
		api.Cancel: (*draft).cancel,
	}
}

// put gives a key a value.
func (d *draft) put(s api.Step) api.Errno {
	d.writes = append(d.writes, write{key: s.Key, value: s.Value, is: true})
	return api.OK
}

// drop takes a key away.
func (d *draft) drop(s api.Step) api.Errno {
	d.writes = append(d.writes, write{key: s.Key})
	return api.OK
}

// add gives a key the sum of its value and a number.
func (d *draft) add(s api.Step) api.Errno {
	value, is := d.value(s.Key)
	if !is {
		value = "0"
	}
	sum, e := Sum(value, s.N)
	if e != api.OK {
		return e
	}
	d.writes = append(d.writes, write{key: s.Key, value: sum, is: true})
	return api.OK
}

// cancel tells a timer's name on: timers are none of the trie's.
func (d *draft) cancel(s api.Step) api.Errno {
	d.cancelled = append(d.cancelled, s.Key)
	return api.OK
}

// value is a key's behind the steps so far: what was written last counts.
func (d *draft) value(key string) (string, bool) {
	for i := len(d.writes) - 1; i >= 0; i-- {
		if w := d.writes[i]; w.key == key {
			return w.value, w.is
		}
	}
	return d.trie.Get(key)
}

// carryOut does what was written to the trie.
func (d *draft) carryOut() {
	for _, w := range d.writes {
		if w.is {
			d.trie.Put(w.key, w.value)
		} else {
			d.trie.Drop(w.key)
		}
	}
}
