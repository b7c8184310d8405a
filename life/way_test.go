package life_test

import (
	"slices"
	"testing"

	"hanse/api"
	"hanse/life"
)

// way tells a fault, unless Way answers just these events.
func way(t *testing.T, from, to int, want ...int) {
	t.Helper()
	if evs, ok := life.Way(from, to); !slices.Equal(evs, want) || !ok {
		t.Errorf("Way(%d, %d) = %v, %v; want %v", from, to, evs, ok, want)
	}
}

// noWay tells a fault, unless Way answers none and false.
func noWay(t *testing.T, from, to int) {
	t.Helper()
	if evs, ok := life.Way(from, to); len(evs) > 0 || ok {
		t.Errorf("Way(%d, %d) = %v, %v; want none", from, to, evs, ok)
	}
}

// P10.3: the chapter's example.
func TestWayExample(t *testing.T) {
	way(t, api.CopyHeld, 0, life.Loose, life.Drop)
}

// P10.3: from where there is no copy to each state.
func TestWayFromNoCopy(t *testing.T) {
	way(t, 0, api.CopyQueued, life.Come)
	way(t, 0, api.CopyLocked, life.Come, life.Take)
	way(t, 0, api.CopyFree, life.Come, life.Take, life.Release)
	way(t, 0, api.CopyHeld, life.Come, life.Hold)
	way(t, 0, api.CopyBound, life.Come, life.Hold, life.Bind)
	way(t, 0, api.CopyRunning, life.Come, life.Take, life.Start)
	way(t, 0, api.CopyEnded, life.Come, life.End)
}

// P10.3: from each state to where there is no copy.
func TestWayToNoCopy(t *testing.T) {
	way(t, api.CopyQueued, 0, life.Drop)
	way(t, api.CopyLocked, 0, life.End, life.Drop)
	way(t, api.CopyFree, 0, life.Freed, life.Drop)
	way(t, api.CopyHeld, 0, life.Loose, life.Drop)
	way(t, api.CopyBound, 0, life.End, life.Drop)
	way(t, api.CopyRunning, 0, life.End, life.Drop)
	way(t, api.CopyEnded, 0, life.Drop)
}

// P10.3: of several of one length, the one whose first unlike event is less: by Loose, not by Bind.
func TestWayOfSeveral(t *testing.T) {
	way(t, api.CopyHeld, api.CopyEnded, life.Loose, life.End)
	for _, evs := range [][]int{{life.Loose, life.End}, {life.Bind, life.End}} {
		if to, n := goes(api.CopyHeld, evs); to != api.CopyEnded || n != 2 {
			t.Errorf("%v leads to %d", evs, to)
		}
	}
}

// P10.3: a shorter one, though another one begins with a lesser event.
func TestWayShorterFirst(t *testing.T) {
	way(t, api.CopyLocked, api.CopyEnded, life.End)
	way(t, api.CopyQueued, api.CopyEnded, life.End)
	way(t, api.CopyQueued, 0, life.Drop)
	way(t, api.CopyLocked, 0, life.End, life.Drop)
	way(t, api.CopyLocked, api.CopyQueued, life.Release, life.Freed)
	way(t, api.CopyBound, api.CopyEnded, life.End)
	way(t, api.CopyHeld, api.CopyRunning, life.Bind, life.Start)
}

// P10.3: the longest ones there are.
func TestWayLongest(t *testing.T) {
	way(t, api.CopyRunning, api.CopyFree, life.End, life.Drop, life.Come, life.Take, life.Release)
	way(t, api.CopyBound, api.CopyFree, life.End, life.Drop, life.Come, life.Take, life.Release)
	way(t, api.CopyRunning, api.CopyBound, life.End, life.Drop, life.Come, life.Hold, life.Bind)
}

// P10.3: none, and true, from a state to itself.
func TestWayToItself(t *testing.T) {
	for _, st := range states() {
		way(t, st, st)
	}
}

// P10.3: from each state to each: of all rows of events, the shorter ones first, the less ones first, it is the first that leads there.
func TestWayOfAll(t *testing.T) {
	first := map[[2]int][]int{}
	for length := range 6 {
		rows(length, events(), func(evs []int) {
			for _, from := range states() {
				to, n := goes(from, evs)
				if n < len(evs) {
					continue
				}
				if _, known := first[[2]int{from, to}]; !known {
					first[[2]int{from, to}] = slices.Clone(evs)
				}
			}
		})
	}
	for _, from := range states() {
		for _, to := range states() {
			want, ok := first[[2]int{from, to}]
			if !ok {
				t.Errorf("no row of five events leads from %d to %d", from, to)
			}
			way(t, from, to, want...)
		}
	}
}

// P10.2, P10.3: Walk along it comes there, with all of it gone.
func TestWalkAlongTheWay(t *testing.T) {
	for _, from := range states() {
		for _, to := range states() {
			evs, _ := life.Way(from, to)
			walks(t, from, evs, to, len(evs))
			for n := range len(evs) {
				if st, _ := life.Walk(from, evs[:n]...); st == to {
					t.Errorf("Way(%d, %d) = %v: %d of them are enough", from, to, evs, n)
				}
			}
		}
	}
}

// P10.3: to and from what is no state, and from such a number to itself and to another one.
func TestWayOfNoState(t *testing.T) {
	for _, none := range noStates() {
		for _, st := range states() {
			noWay(t, none, st)
			noWay(t, st, none)
		}
		for _, other := range noStates() {
			noWay(t, none, other)
		}
	}
}

// P10.3: all small numbers: there is a way from each state to each, and no other.
func TestWayOfSmallNumbers(t *testing.T) {
	for from := -20; from < 100; from++ {
		for to := -20; to < 100; to++ {
			_, ok := life.Way(from, to)
			want := from >= 0 && from <= api.CopyEnded && to >= 0 && to <= api.CopyEnded
			if ok != want {
				t.Errorf("Way(%d, %d): %v", from, to, ok)
			}
			if !want {
				noWay(t, from, to)
			}
		}
	}
}
