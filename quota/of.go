package quota

// mostCounted is how far each part of a use is counted by Of.
const mostCounted = 1<<31 - 1

// Of is the use of keys and values of so many bytes each, and of so many timers, right or not.
func Of(keys, values []int, timers int) Use {
	n := min(len(keys), len(values))
	room := 0
	for i := range n {
		room = count(room, keys[i], values[i])
	}
	return Use{Keys: min(n, mostCounted), Room: room, Timers: min(max(timers, 0), mostCounted)}
}

// count adds sizes to what is counted already, as far as there is counted; a wrong one is 0 bytes.
func count(counted int, sizes ...int) int {
	for _, n := range sizes {
		if !wrong(n) {
			counted += min(n, mostCounted-counted)
		}
	}
	return counted
}
