package store

import (
	"bytes"

	"belfry/action"
	"belfry/api"
	"belfry/codec"
	"belfry/timers"
)

// The tags of a change's fields.
const (
	tagKind = 1 + iota
	tagKey
	tagValue
	tagName
	tagVersion
	tagAt
	tagEvery
	tagDo
)

// Right tells whether a change is right.
func Right(c api.Change) bool {
	switch c.Kind {
	case api.HasKey:
		return action.Right(api.Step{Kind: api.Put, Key: c.Key, Value: c.Value}) && isZero(c.Timer)
	case api.NoKey, api.NoTimer:
		return action.Right(api.Step{Kind: api.Drop, Key: c.Key, Value: c.Value}) && isZero(c.Timer)
	case api.HasTimer:
		return c.Key == "" && c.Value == "" && timers.Right(c.Timer)
	}
	return false
}

// wrong tells whether a change is not right.
func wrong(c api.Change) bool {
	return !Right(c)
}

// isZero tells whether there is nothing in any field of a timer.
func isZero(t api.Timer) bool {
	return t.Name == "" && t.Version == 0 && t.At == 0 && t.Every == 0 && len(t.Do) == 0
}

// Encode are a change's bytes.
func Encode(c api.Change) ([]byte, api.Errno) {
	if wrong(c) {
		return nil, api.ErrState
	}
	var l []api.Field
	add := func(tag int, data []byte) {
		l = append(l, api.Field{Tag: tag, Data: data})
	}
	add(tagKind, []byte{byte(c.Kind)})
	switch c.Kind {
	case api.HasKey:
		add(tagKey, []byte(c.Key))
		add(tagValue, []byte(c.Value))
	case api.NoKey, api.NoTimer:
		add(tagKey, []byte(c.Key))
	case api.HasTimer:
		addTimer(add, c.Timer)
	}
	return codec.Encode(l)
}

// addTimer adds the fields of a right timer.
func addTimer(add func(tag int, data []byte), t api.Timer) {
	do, _ := action.Encode(t.Do)
	add(tagName, []byte(t.Name))
	add(tagVersion, codec.Bytes(uint64(t.Version)))
	add(tagAt, codec.Bytes(t.At))
	add(tagEvery, codec.Bytes(t.Every))
	add(tagDo, do)
}

// Decode is the change of bytes.
func Decode(b []byte) (api.Change, api.Errno) {
	l, e := codec.Decode(b)
	if e != api.OK {
		return api.Change{}, api.ErrBytes
	}
	c := changeOf(l)
	// Fields that are missing, out of place, too many or none of their kind are
	// known by this: the change that was made of them has other bytes.
	again, e := Encode(c)
	if e != api.OK || !bytes.Equal(again, b) {
		return api.Change{}, api.ErrBytes
	}
	return c, api.OK
}

// changeOf is the change that fields tell, right or not. A field that is
// missing, or is no number's or action's, is taken for an empty one.
func changeOf(l []api.Field) api.Change {
	data := func(tag int) []byte {
		found, _ := codec.Find(l, tag)
		return found
	}
	number := func(tag int) uint64 {
		n, _ := codec.Number(data(tag))
		return n
	}
	do, _ := action.Decode(data(tagDo))
	t := api.Timer{Name: string(data(tagName)), Version: int(number(tagVersion)), At: number(tagAt), Every: number(tagEvery), Do: do}
	return api.Change{Kind: api.ChangeKind(number(tagKind)), Key: string(data(tagKey)), Value: string(data(tagValue)), Timer: t}
}
