package timers

import (
	"slices"

	"belfry/action"
	"belfry/api"
	"belfry/calendar"
)

// Right tells whether a timer is right.
func Right(t api.Timer) bool {
	return t.Name != "" && len(t.Name) <= api.MaxName &&
		t.Version >= 1 && t.Version <= api.MaxNumber &&
		t.At <= api.MaxTick && t.Every <= api.MaxTick &&
		isAction(t.Do)
}

// After is a timer that has fired.
func After(t api.Timer, now uint64) (api.Timer, bool) {
	at, is := calendar.Next(t.At, t.Every, now)
	if !is || at > api.MaxTick {
		return api.Timer{}, false
	}
	t = apart(t)
	t.At = at
	return t, true
}

// isAction tells whether steps are an action: just an action has bytes.
func isAction(l []api.Step) bool {
	_, e := action.Encode(l)
	return e == api.OK
}

// apart is a timer whose steps nobody else can turn.
func apart(t api.Timer) api.Timer {
	t.Do = slices.Clone(t.Do)
	return t
}
