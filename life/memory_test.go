package life_test

import (
	"reflect"
	"slices"
	"testing"

	"hanse/life"
)

// room answers where a list's memory begins and ends, spare room too.
func room(l []int) (from, to uintptr) {
	v := reflect.ValueOf(l)
	return v.Pointer(), v.Pointer() + uintptr(cap(l))*v.Type().Elem().Size()
}

// apart tells whether two lists share no memory, spare room too.
func apart(one, other []int) bool {
	a, b := room(one)
	c, d := room(other)
	return a == b || c == d || b <= c || d <= a
}

// spoil overwrites a list and its spare room.
func spoil(l []int) {
	l = l[:cap(l)]
	for i := range l {
		l[i] = life.Come + i%3
	}
}

// ways answers the ways from each state to each.
func ways() [][]int {
	var l [][]int
	for _, from := range states() {
		for _, to := range states() {
			evs, _ := life.Way(from, to)
			l = append(l, evs)
		}
	}
	return l
}

// R2: no two answers share memory.
func TestWaysAreApart(t *testing.T) {
	l := slices.Concat(ways(), ways())
	for i := range l {
		for k := range i {
			if !apart(l[i], l[k]) {
				t.Errorf("ways %d and %d, %v and %v, share memory", k, i, l[k], l[i])
			}
		}
	}
}

// R2, R3: writing over an answer and its spare room changes no other one, earlier or later.
func TestWayWrittenOver(t *testing.T) {
	want := ways()
	for i := range want {
		want[i] = slices.Clone(want[i])
	}
	kept := ways()
	for range 3 {
		for _, evs := range ways() {
			spoil(evs)
		}
		if !slices.EqualFunc(ways(), want, slices.Equal) {
			t.Fatal("later answers are others")
		}
		if !slices.EqualFunc(kept, want, slices.Equal) {
			t.Fatal("earlier answers are others")
		}
	}
	for i, evs := range kept {
		spoil(evs)
		if rest := kept[i+1:]; !slices.EqualFunc(rest, want[i+1:], slices.Equal) {
			t.Fatalf("way %d is another one's", i)
		}
	}
}

// R2, R3: what is answered behind written-over ways by Next and Walk is what it was.
func TestOthersBehindWrittenOverWays(t *testing.T) {
	for _, evs := range ways() {
		spoil(evs)
	}
	for _, st := range states() {
		for _, ev := range events() {
			want, there := leads(st, ev)
			if to, ok := life.Next(st, ev); to != want || ok != there {
				t.Errorf("Next(%d, %d) = %d, %v", st, ev, to, ok)
			}
			to, n := goes(st, []int{ev})
			walks(t, st, []int{ev}, to, n)
		}
	}
}

// R2: what is handed in to Walk stays as it was, its spare room too.
func TestWalkLeavesItsEvents(t *testing.T) {
	for i, st := range slices.Concat(states(), noStates()) {
		from := 0
		if slices.Contains(states(), st) {
			from = st
		}
		memory := slices.Concat(long(from, 20, uint64(i)), noEvents(), events())
		was := slices.Clone(memory)
		for n := range len(memory) + 1 {
			life.Walk(st, memory[:n]...)
			life.Walk(st, memory[:n:n]...)
			if !slices.Equal(memory, was) {
				t.Fatalf("Walk(%d) of %d events: they became %v", st, n, memory)
			}
		}
	}
}

// R2, R3: what is handed in to Walk is not kept: written over, it changes no later answer.
func TestWalkKeepsNothing(t *testing.T) {
	for i, st := range states() {
		evs := long(st, 20, uint64(i))
		again := slices.Clone(evs)
		to, n := life.Walk(st, evs...)
		spoil(evs)
		walks(t, st, again, to, n)
		life.Walk(st, evs...)
		walks(t, st, again, to, n)
		if a, b := goes(st, again); a != to || b != n {
			t.Errorf("Walk(%d, %v) = %d, %d", st, again, to, n)
		}
	}
}

// R3: what was asked ahead is not seen: all calls, in another order, answer the same.
func TestCallsHaveNothingInCommon(t *testing.T) {
	all := slices.Concat(states(), noStates())
	ask := func(st, ev int) [5]int {
		next, ok := life.Next(st, ev)
		there := 0
		if ok {
			there = 1
		}
		to, n := life.Walk(st, ev, life.Drop)
		evs, _ := life.Way(st, ev)
		return [5]int{next, there, to, n, len(evs)}
	}
	answers := map[[2]int][5]int{}
	for _, st := range all {
		for _, ev := range slices.Concat(events(), noEvents()) {
			answers[[2]int{st, ev}] = ask(st, ev)
		}
	}
	for pair, want := range answers {
		if got := ask(pair[0], pair[1]); got != want {
			t.Errorf("%v: %v, and now %v", pair, want, got)
		}
	}
}
