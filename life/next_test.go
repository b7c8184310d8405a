package life_test

import (
	"slices"
	"testing"

	"hanse/api"
	"hanse/life"
)

// leadsTo tells a fault, unless Next answers that state.
func leadsTo(t *testing.T, st, ev, want int) {
	t.Helper()
	if to, ok := life.Next(st, ev); to != want || !ok {
		t.Errorf("Next(%d, %d) = %d, %v; want %d", st, ev, to, ok, want)
	}
}

// leadsNowhere tells a fault, unless Next answers 0 and false.
func leadsNowhere(t *testing.T, st, ev int) {
	t.Helper()
	if to, ok := life.Next(st, ev); to != 0 || ok {
		t.Errorf("Next(%d, %d) = %d, %v; want none", st, ev, to, ok)
	}
}

// The events' numbers.
func TestEventsNumbers(t *testing.T) {
	if !slices.Equal(events(), []int{1, 2, 3, 4, 5, 6, 7, 8, 9, 10}) {
		t.Errorf("the events: %v", events())
	}
}

// P10.1: each row of the table, word by word.
func TestNextRows(t *testing.T) {
	leadsTo(t, 0, life.Come, api.CopyQueued)
	leadsTo(t, api.CopyQueued, life.Take, api.CopyLocked)
	leadsTo(t, api.CopyQueued, life.Hold, api.CopyHeld)
	leadsTo(t, api.CopyQueued, life.End, api.CopyEnded)
	leadsTo(t, api.CopyQueued, life.Drop, 0)
	leadsTo(t, api.CopyLocked, life.Release, api.CopyFree)
	leadsTo(t, api.CopyLocked, life.Start, api.CopyRunning)
	leadsTo(t, api.CopyLocked, life.End, api.CopyEnded)
	leadsTo(t, api.CopyFree, life.Freed, api.CopyQueued)
	leadsTo(t, api.CopyHeld, life.Loose, api.CopyQueued)
	leadsTo(t, api.CopyHeld, life.Bind, api.CopyBound)
	leadsTo(t, api.CopyBound, life.Start, api.CopyRunning)
	leadsTo(t, api.CopyBound, life.End, api.CopyEnded)
	leadsTo(t, api.CopyRunning, life.End, api.CopyEnded)
	leadsTo(t, api.CopyEnded, life.Drop, 0)
}

// P10.1: each state by each event: fifteen of them are rows.
func TestNextOfAll(t *testing.T) {
	there := 0
	for _, st := range states() {
		for _, ev := range events() {
			if to, ok := leads(st, ev); ok {
				leadsTo(t, st, ev, to)
				there++
			} else {
				leadsNowhere(t, st, ev)
			}
		}
	}
	if there != 15 {
		t.Errorf("%d rows", there)
	}
}

// P10.1: what is no state, what is no event, and both.
func TestNextOfWhatIsNone(t *testing.T) {
	for _, ev := range noEvents() {
		for _, st := range states() {
			leadsNowhere(t, st, ev)
		}
		for _, st := range noStates() {
			leadsNowhere(t, st, ev)
		}
	}
	for _, st := range noStates() {
		for _, ev := range events() {
			leadsNowhere(t, st, ev)
		}
	}
}

// P10.1: all small numbers, in either place.
func TestNextOfSmallNumbers(t *testing.T) {
	for st := -20; st < 300; st++ {
		for ev := -20; ev < 300; ev++ {
			if to, ok := leads(st, ev); ok {
				leadsTo(t, st, ev, to)
			} else {
				leadsNowhere(t, st, ev)
			}
		}
	}
}
