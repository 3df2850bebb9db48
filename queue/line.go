package queue

import "container/heap"

// line is a heap of entries. It knows the place of each name, so that an entry
// that is not the first one is found without going through all of them.
type line struct {
	entries []Entry
	places  map[string]int
}

// add puts an entry whose name is not there.
func (l *line) add(e Entry) {
	heap.Push(l, e)
}

// move gives a name that is there another deadline.
func (l *line) move(e Entry) {
	place := l.places[e.Name]
	l.entries[place] = e
	heap.Fix(l, place)
}

// remove takes a name away that is there.
func (l *line) remove(name string) {
	heap.Remove(l, l.places[name])
}

// front is the first of at least one.
func (l *line) front() Entry {
	return l.entries[0]
}

// takeFront takes the first of at least one.
func (l *line) takeFront() Entry {
	return heap.Pop(l).(Entry)
}

// Len, Less, Swap, Push and Pop are what package heap asks for; nobody else
// calls the last three, as the order would be lost.

// Len is how many entries there are.
func (l *line) Len() int {
	return len(l.entries)
}

// Less says whether one entry comes ahead of another one.
func (l *line) Less(i, j int) bool {
	return Entry.ahead(l.entries[i], l.entries[j])
}

// Swap changes two entries' places.
func (l *line) Swap(i, j int) {
	l.entries[i], l.entries[j] = l.entries[j], l.entries[i]
	l.places[l.entries[i].Name] = i
	l.places[l.entries[j].Name] = j
}

// Push puts an entry behind all others.
func (l *line) Push(x any) {
	e := x.(Entry)
	l.places[e.Name] = len(l.entries)
	l.entries = append(l.entries, e)
}

// Pop takes the entry behind all others.
func (l *line) Pop() any {
	last := len(l.entries) - 1
	e := l.entries[last]
	// Else the name would stay in memory behind the list's length.
	l.entries[last] = Entry{}
	l.entries = l.entries[:last]
	delete(l.places, e.Name)
	return e
}
