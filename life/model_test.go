package life_test

import (
	"hanse/api"
	"hanse/life"
)

const (
	mostInt  = 1<<63 - 1
	leastInt = -1 << 63
)

// edge is a row of the document's table.
type edge struct{ from, by, to int }

// table is the document's table, row by row.
var table = []edge{
	{0, life.Come, api.CopyQueued},
	{api.CopyQueued, life.Take, api.CopyLocked},
	{api.CopyQueued, life.Hold, api.CopyHeld},
	{api.CopyQueued, life.End, api.CopyEnded},
	{api.CopyQueued, life.Drop, 0},
	{api.CopyLocked, life.Release, api.CopyFree},
	{api.CopyLocked, life.Start, api.CopyRunning},
	{api.CopyLocked, life.End, api.CopyEnded},
	{api.CopyFree, life.Freed, api.CopyQueued},
	{api.CopyHeld, life.Loose, api.CopyQueued},
	{api.CopyHeld, life.Bind, api.CopyBound},
	{api.CopyBound, life.Start, api.CopyRunning},
	{api.CopyBound, life.End, api.CopyEnded},
	{api.CopyRunning, life.End, api.CopyEnded},
	{api.CopyEnded, life.Drop, 0},
}

// leads is what the table says.
func leads(st, ev int) (int, bool) {
	for _, r := range table {
		if r.from == st && r.by == ev {
			return r.to, true
		}
	}
	return 0, false
}

// goes is where the table leads by a row of events, and how many of them are gone.
func goes(st int, evs []int) (to, n int) {
	for _, ev := range evs {
		next, ok := leads(st, ev)
		if !ok {
			break
		}
		st = next
		n++
	}
	return st, n
}

// states is all of them.
func states() []int {
	return []int{0, api.CopyQueued, api.CopyLocked, api.CopyFree, api.CopyHeld, api.CopyBound, api.CopyRunning, api.CopyEnded}
}

// noStates is numbers that are none.
func noStates() []int {
	return []int{-1, api.CopyEnded + 1, -2, api.CopyEnded + 2, -api.CopyQueued, -api.CopyEnded, 100, 256, 1 << 32, 1<<32 + api.CopyQueued, 1<<63 - 8, mostInt, leastInt + api.CopyRunning, leastInt + 1, leastInt}
}

// events is all of them.
func events() []int {
	return []int{life.Come, life.Take, life.Release, life.Freed, life.Hold, life.Loose, life.Bind, life.Start, life.End, life.Drop}
}

// noEvents is numbers that are none.
func noEvents() []int {
	return []int{0, life.Drop + 1, -1, life.Drop + 2, -life.Come, -life.Drop, 100, 257, 1<<32 + life.Come, mostInt - 1, mostInt, leastInt + life.End, leastInt + 1, leastInt}
}

// rows hands out all rows of that many events of the list, the less ones first; a row is overwritten behind the call.
func rows(length int, of []int, each func(evs []int)) {
	evs := make([]int, length)
	var fill func(at int)
	fill = func(at int) {
		if at == length {
			each(evs)
			return
		}
		for _, ev := range of {
			evs[at] = ev
			fill(at + 1)
		}
	}
	fill(0)
}

// dice answers numbers that have no rule to be seen, from 0 on and below n.
func dice(seed uint64) func(n int) int {
	return func(n int) int {
		seed = seed*6364136223846793005 + 1442695040888963407
		return int(seed >> 33 % uint64(n))
	}
}

// long is a row of events that the table has from st on, without a rule to be seen.
func long(st, length int, seed uint64) []int {
	roll := dice(seed)
	evs := make([]int, 0, length)
	for len(evs) < length {
		var may []edge
		for _, r := range table {
			if r.from == st {
				may = append(may, r)
			}
		}
		r := may[roll(len(may))]
		st = r.to
		evs = append(evs, r.by)
	}
	return evs
}
