package life_test

import (
	"testing"

	"hanse/api"
	"hanse/life"
)

// follows ends the test with a fault, unless what P10.4 says holds for events that were gone one behind the other.
func follows(t *testing.T, evs []int) {
	t.Helper()
	first := evs[:min(len(evs), 30)]
	starts := 0
	for i, ev := range evs {
		if ev == life.Come {
			starts = 0
		}
		if ev == life.Start {
			starts++
		}
		if starts > 1 {
			t.Fatalf("%v: another Start at %d, and no Come between", first, i)
		}
		if i == 0 {
			continue
		}
		switch ahead := evs[i-1]; {
		case ahead == life.Start && ev != life.End:
			t.Fatalf("%v: %d behind Start", first, ev)
		case ahead == life.End && ev != life.Drop:
			t.Fatalf("%v: %d behind End", first, ev)
		case ev == life.Start && ahead != life.Take && ahead != life.Bind:
			t.Fatalf("%v: Start behind %d", first, ahead)
		}
	}
}

// P10.4: over all rows of up to five events, by what Walk goes of them, from each state.
func TestWhatFollowsInShortRows(t *testing.T) {
	for length := range 6 {
		rows(length, events(), func(evs []int) {
			for _, st := range states() {
				_, n := life.Walk(st, evs...)
				follows(t, evs[:n])
			}
		})
	}
}

// P10.4: over all rows of up to twelve events that can be gone whole, from each state.
func TestWhatFollowsInWholeRows(t *testing.T) {
	evs := make([]int, 0, 12)
	var on func(st int)
	on = func(st int) {
		follows(t, evs)
		if len(evs) == cap(evs) {
			return
		}
		for ev := life.Come - 2; ev <= life.Drop+2; ev++ {
			if to, ok := life.Next(st, ev); ok {
				evs = append(evs, ev)
				on(to)
				evs = evs[:len(evs)-1]
			}
		}
	}
	for _, st := range states() {
		on(st)
	}
}

// P10.4: over long rows, by Next, whichever event is tried.
func TestWhatFollowsInLongRows(t *testing.T) {
	for i, from := range states() {
		roll := dice(uint64(i) + 5)
		st, evs := from, []int{}
		for range 200000 {
			ev := roll(life.Drop+3) - 1
			if to, ok := life.Next(st, ev); ok {
				st = to
				evs = append(evs, ev)
			}
		}
		follows(t, evs)
		walks(t, from, evs, st, len(evs))
		if len(evs) < 1000 {
			t.Errorf("from %d: only %d events", from, len(evs))
		}
	}
}

// P10.4: behind Start nothing but End may come, and behind that nothing but Drop, whatever led to Start.
func TestBehindStartAndEnd(t *testing.T) {
	for _, st := range states() {
		for ev := -2; ev < 20; ev++ {
			if to, n := life.Walk(st, life.Start, ev); n > 0 && (n == 2) != (ev == life.End) {
				t.Errorf("from %d, behind Start: %d leads to %d", st, ev, to)
			}
			if to, n := life.Walk(st, life.End, ev); n > 0 && (n == 2) != (ev == life.Drop) {
				t.Errorf("from %d, behind End: %d leads to %d", st, ev, to)
			}
		}
	}
}

// P10.4: Start is led to by Take, and by Bind, and by no other event.
func TestWhatLeadsToStart(t *testing.T) {
	for _, st := range states() {
		for ev := -2; ev < 20; ev++ {
			_, ahead := life.Walk(st, ev)
			_, n := life.Walk(st, ev, life.Start)
			if want := ahead == 1 && (ev == life.Take || ev == life.Bind); (n == 2) != want {
				t.Errorf("from %d, Start behind %d: %v", st, ev, n == 2)
			}
		}
	}
	walks(t, api.CopyQueued, []int{life.Take, life.Start}, api.CopyRunning, 2)
	walks(t, api.CopyHeld, []int{life.Bind, life.Start}, api.CopyRunning, 2)
}
