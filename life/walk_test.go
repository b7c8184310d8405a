package life_test

import (
	"slices"
	"testing"

	"hanse/api"
	"hanse/life"
)

// walks ends the test with a fault, unless Walk ends there, with so many events gone.
func walks(t *testing.T, st int, evs []int, to, n int) {
	t.Helper()
	if a, b := life.Walk(st, evs...); a != to || b != n {
		t.Fatalf("Walk(%d, %v) (of %d) = %d, %d; want %d, %d", st, evs[:min(len(evs), 30)], len(evs), a, b, to, n)
	}
}

// P10.2: the chapter's example.
func TestWalkExample(t *testing.T) {
	walks(t, 0, []int{life.Come, life.Take, life.Start, life.Start}, api.CopyRunning, 3)
}

// P10.2: no events, from each state and from what is none.
func TestWalkOfNoEvents(t *testing.T) {
	for _, st := range slices.Concat(states(), noStates()) {
		walks(t, st, nil, st, 0)
		walks(t, st, []int{}, st, 0)
		walks(t, st, make([]int, 0, 9), st, 0)
	}
}

// P10.2: one event: each row, and each pair that is none.
func TestWalkOfOneEvent(t *testing.T) {
	for _, st := range states() {
		for _, ev := range slices.Concat(events(), noEvents()) {
			if to, ok := leads(st, ev); ok {
				walks(t, st, []int{ev}, to, 1)
			} else {
				walks(t, st, []int{ev}, st, 0)
			}
		}
	}
}

// P10.2: from what is no state nothing is gone.
func TestWalkFromNoState(t *testing.T) {
	for _, st := range noStates() {
		for _, ev := range slices.Concat(events(), noEvents()) {
			walks(t, st, []int{ev}, st, 0)
			walks(t, st, []int{ev, life.Come, life.Drop}, st, 0)
			walks(t, st, []int{life.Come, life.End, life.Drop, ev}, st, 0)
		}
	}
}

// P10.2: the first has no row, the last has none, one between has none, as an event and as what is no event.
func TestWalkStops(t *testing.T) {
	for _, none := range slices.Concat(noEvents(), []int{life.Come}) {
		walks(t, api.CopyQueued, []int{none, life.Take, life.Start}, api.CopyQueued, 0)
		walks(t, api.CopyQueued, []int{life.Take, none, life.Start}, api.CopyLocked, 1)
		walks(t, api.CopyQueued, []int{life.Take, life.Start, none}, api.CopyRunning, 2)
		walks(t, api.CopyQueued, []int{life.Take, life.Start, life.End, none}, api.CopyEnded, 3)
	}
	walks(t, 0, []int{life.Take, life.Start, life.End}, 0, 0)
	walks(t, 0, []int{life.Come, life.Drop, life.Drop}, 0, 2)
	walks(t, api.CopyFree, []int{life.Take, life.Freed}, api.CopyFree, 0)
	walks(t, api.CopyFree, []int{life.Freed, life.Freed, life.Take}, api.CopyQueued, 1)
	walks(t, api.CopyHeld, []int{life.Bind, life.Bind}, api.CopyBound, 1)
	walks(t, api.CopyBound, []int{life.Start, life.Start}, api.CopyRunning, 1)
	walks(t, api.CopyRunning, []int{life.Start}, api.CopyRunning, 0)
	walks(t, api.CopyEnded, []int{life.End}, api.CopyEnded, 0)
}

// P10.2: wherever a long row is stopped, all ahead of that is gone, and what stands behind is not looked at.
func TestWalkStopsAnywhere(t *testing.T) {
	for i, st := range states() {
		evs := long(st, 200, uint64(i))
		for at := range evs {
			to, n := goes(st, evs[:at])
			if n != at {
				t.Fatalf("%v leads nowhere", evs[:at])
			}
			for _, none := range slices.Concat(noEvents(), events()) {
				if _, ok := leads(to, none); ok {
					continue
				}
				for _, behind := range [][]int{nil, evs[at:], {none}, {mostInt, leastInt}, events()} {
					walks(t, st, slices.Concat(evs[:at], []int{none}, behind), to, at)
				}
			}
		}
	}
}

// P10.2, R6: a row ends at its length, though events that have rows stand in its spare room.
func TestWalkEndsAtTheLength(t *testing.T) {
	for i, st := range states() {
		evs := long(st, 60, uint64(i))
		for n := range len(evs) + 1 {
			to, _ := goes(st, evs[:n])
			walks(t, st, evs[:n], to, n)
			walks(t, st, evs[:n:n], to, n)
		}
	}
}

// P10.2: events that go round many times, by each way round.
func TestWalkRoundAndRound(t *testing.T) {
	for _, round := range [][]int{
		{life.Come, life.Drop},
		{life.Come, life.End, life.Drop},
		{life.Come, life.Take, life.Release, life.Freed, life.Drop},
		{life.Come, life.Take, life.End, life.Drop},
		{life.Come, life.Take, life.Start, life.End, life.Drop},
		{life.Come, life.Hold, life.Loose, life.Drop},
		{life.Come, life.Hold, life.Bind, life.End, life.Drop},
		{life.Come, life.Hold, life.Bind, life.Start, life.End, life.Drop},
		{life.Come, life.Take, life.Release, life.Freed, life.Hold, life.Loose, life.Hold, life.Bind, life.Start, life.End, life.Drop},
	} {
		evs := slices.Repeat(round, 10000)
		walks(t, 0, evs, 0, len(evs))
		walks(t, 0, slices.Concat(evs, []int{life.Come}), api.CopyQueued, len(evs)+1)
		walks(t, 0, slices.Concat(evs, []int{life.Drop}, evs), 0, len(evs))
		walks(t, api.CopyRunning, slices.Concat([]int{life.End, life.Drop}, evs), 0, len(evs)+2)
	}
	there := slices.Repeat([]int{life.Hold, life.Loose, life.Take, life.Release, life.Freed}, 20000)
	walks(t, api.CopyQueued, there, api.CopyQueued, len(there))
	walks(t, api.CopyHeld, there[1:], api.CopyQueued, len(there)-1)
	walks(t, api.CopyQueued, there[:len(there)-1], api.CopyFree, len(there)-1)
}

// P10.2: long rows without a rule to be seen, from each state.
func TestWalkLong(t *testing.T) {
	for i, st := range states() {
		evs := long(st, 100000, uint64(i)+77)
		to, n := goes(st, evs)
		walks(t, st, evs, to, n)
		if n != len(evs) {
			t.Errorf("from %d: %d gone", st, n)
		}
	}
}

// stepwise is what Walk must answer, by Next, event by event.
func stepwise(st int, evs []int) (to, n int) {
	for _, ev := range evs {
		next, ok := life.Next(st, ev)
		if !ok {
			break
		}
		st = next
		n++
	}
	return st, n
}

// P10.2: against Next and against the table, from each state and from what is none, over all short rows of events.
func TestWalkAgainstNext(t *testing.T) {
	from := slices.Concat(states(), []int{-1, api.CopyEnded + 1})
	against := func(evs []int) {
		for _, st := range from {
			to, n := stepwise(st, evs)
			walks(t, st, evs, to, n)
			to, n = goes(st, evs)
			walks(t, st, evs, to, n)
		}
	}
	for length := range 5 {
		rows(length, events(), against)
	}
	for length := range 4 {
		rows(length, slices.Concat([]int{-1, 0}, events(), []int{life.Drop + 1}), against)
	}
}
