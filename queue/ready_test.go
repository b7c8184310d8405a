package queue_test

import (
	"slices"
	"testing"

	"hanse/api"
	"hanse/queue"
	"hanse/rank"
)

// of answers a copy of a job with that ID, user and base, that came at since and is queued.
func of(at, n, user, base, since int) api.Copy {
	return api.Copy{Job: api.Job{ID: api.ID{At: at, N: n}, User: user, Base: base}, St: api.CopyQueued, Since: since}
}

// in answers the copy in that state.
func in(c api.Copy, st int) api.Copy {
	c.St = st
	return c
}

// pact answers the copy as one of a pact's.
func pact(c api.Copy) api.Copy {
	c.Job.Pact = true
	return c
}

// states answers all states, and numbers that are none.
func states() []int {
	return []int{leastInt, -1, 0, api.CopyQueued, api.CopyLocked, api.CopyFree, api.CopyHeld, api.CopyBound, api.CopyRunning, api.CopyEnded, api.CopyEnded + 1, 256, mostInt}
}

// readyIn answers the states from which a copy may be started.
func readyIn(st int) bool {
	return st == api.CopyQueued || st == api.CopyLocked
}

// someNows answers ticks, and numbers that are none.
func someNows() []int {
	return []int{leastInt, -1, 0, 1, 50, 1024, 3000, forever - 1, forever, forever + 1, mostInt}
}

// wrongUses answers uses that are not right.
func wrongUses() [][]api.Use {
	most := 1 << 60
	return [][]api.Use{
		{{User: 3, Sum: most}, {User: 3, Sum: most}}, {{User: 3, Sum: most}, {User: 2, Sum: most}}, {{User: -1}, {User: 3, Sum: most}}, {{User: 3, Sum: most}, {User: 16}},
		{{User: 3, Sum: most + 1}}, {{User: 3, Sum: -1}}, {{User: 3, Sum: most, At: -1}}, {{User: 3, Sum: most, At: forever + 1}}, {{User: 3, Sum: most}, {User: 4, Sum: -1}},
	}
}

// P12.2: of none, none.
func TestReadyOfNone(t *testing.T) {
	for _, now := range someNows() {
		for _, uses := range append(wrongUses(), nil, []api.Use{}, []api.Use{{User: 3, Sum: 640}}) {
			stand(t, nil, uses, now)
			stand(t, []api.Copy{}, uses, now)
		}
	}
}

// P12.2: one, in each state, a pact's and none.
func TestReadyOfOne(t *testing.T) {
	for _, st := range states() {
		for _, c := range []api.Copy{{}, of(1, 2, 3, 4, 5), of(mostInt, leastInt, 16, -1, leastInt)} {
			for _, now := range someNows() {
				var want []int
				if readyIn(st) {
					want = []int{0}
				}
				stand(t, []api.Copy{in(c, st)}, nil, now, want...)
				stand(t, []api.Copy{pact(in(c, st))}, nil, now)
			}
		}
	}
}

// P12.2: each two states beside each other, pacts' and none.
func TestReadyOfTwo(t *testing.T) {
	for _, one := range states() {
		for _, next := range states() {
			for kind := range 4 {
				// The second one comes first, if both are there.
				l := []api.Copy{in(of(0, 1, 0, 1, 9), one), in(of(0, 2, 0, 2, 9), next)}
				l[0].Job.Pact, l[1].Job.Pact = kind&1 == 1, kind&2 == 2
				var want []int
				if readyIn(next) && kind&2 == 0 {
					want = append(want, 1)
				}
				if readyIn(one) && kind&1 == 0 {
					want = append(want, 0)
				}
				for _, now := range someNows() {
					stand(t, l, nil, now, want...)
				}
			}
		}
	}
}

// P12.2: in rank's order: by base and age and what was used, by Since, by ID, by place; queued and locked ones alike.
func TestReadyInOrder(t *testing.T) {
	for _, locked := range []int{0, 1, 5, 6, 127} {
		l := []api.Copy{of(0, 9, 0, 0, 30), of(0, 8, 0, 0, 20), of(1, 1, 0, 0, 20), of(0, 7, 0, 1, 60), of(0, 8, 0, 0, 20), of(0, 7, 3, 1, 60), of(0, 3, 0, 0, 30)}
		for i := range l {
			if locked>>i&1 == 1 {
				l[i].St = api.CopyLocked
			}
		}
		stand(t, l, nil, 60, 3, 5, 1, 4, 2, 6, 0)
		stand(t, l, []api.Use{{User: 3, Sum: 64}}, 60, 3, 5, 1, 4, 2, 6, 0)
		stand(t, l, []api.Use{{User: 3, Sum: 1 << 60}}, 60, 3, 1, 4, 2, 6, 0, 5)
		stand(t, l, []api.Use{{User: 0, Sum: 128}}, 60, 5, 3, 1, 4, 2, 6, 0)
		stand(t, l, []api.Use{{User: 0, Sum: 128}}, 1024, 5, 3, 1, 4, 2, 6, 0)
		stand(t, l, []api.Use{{User: 0, Sum: 128}}, 2048, 3, 5, 1, 4, 2, 6, 0)
		for _, uses := range wrongUses() {
			stand(t, l, uses, 60, 3, 5, 1, 4, 2, 6, 0)
		}
		// Where now is no tick, neither age nor uses count.
		for _, now := range []int{-1, forever + 1, leastInt, mostInt} {
			stand(t, l, []api.Use{{User: 3, Sum: 1 << 60}}, now, 3, 5, 1, 4, 2, 6, 0)
		}
	}
}

// P12.2: the places are those in the whole list, those that are left out counted in.
func TestReadyPlaces(t *testing.T) {
	for _, many := range []int{1, 2, 11, 12, 13, 50, 256, 257, 1000} {
		var l []api.Copy
		var want []int
		for n := range many {
			c := of(1, 2, n%16, 3, 4)
			c.St = states()[n%len(states())]
			c.Job.Pact = n%5 == 4
			c.Token, c.Low, c.At, c.How, c.End = many-n, -n, many-n, n, -n
			c.Job.Wall, c.Job.Run, c.Job.After, c.Job.Need = many-n, -n, n, complex(float64(many-n), 1)
			l = append(l, c)
			if readyIn(c.St) && !c.Job.Pact {
				want = append(want, n)
			}
		}
		stand(t, l, nil, 9, want...)
		stand(t, l, nil, -1, want...)
	}
}

// P12.2: all rows of a few copies that differ in one word.
func TestReadyOfAllShortRows(t *testing.T) {
	c := of(1, 1, 0, 1, 5)
	kinds := []api.Copy{c, in(c, api.CopyLocked), in(c, api.CopyFree), pact(c), of(1, 1, 0, 2, 5), of(1, 1, 3, 1, 5), of(1, 1, 0, 1, 4), of(1, 0, 0, 1, 5)}
	uses := []api.Use{{User: 3, Sum: 64}}
	var walk func(l []api.Copy)
	walk = func(l []api.Copy) {
		for _, now := range []int{5, 9, 4101, -1} {
			stand(t, l, uses, now, readied(l, uses, now)...)
		}
		if len(l) == 4 {
			return
		}
		for _, c := range kinds {
			walk(append(slices.Clone(l), c))
		}
	}
	walk(nil)
}

// P12.2: each that is ready stands in it once, no other does.
func TestReadyHasEachOnce(t *testing.T) {
	for many := range 80 {
		roll := dice(uint64(many))
		copies := someCopies(roll, many)
		var want []int
		for i, c := range copies {
			if readyIn(c.St) && !c.Job.Pact {
				want = append(want, i)
			}
		}
		for _, uses := range append(wrongUses(), nil, someUses(roll)) {
			for _, now := range someNows() {
				l := queue.Ready(copies, uses, now)
				slices.Sort(l)
				if !slices.Equal(l, want) {
					t.Fatalf("of %d at %d: %v, want %v", many, now, l, want)
				}
			}
		}
	}
}

// P12.2: they stand to each other as they do among all copies.
func TestReadyIsPartOfTheOrder(t *testing.T) {
	for seed := range uint64(300) {
		roll := dice(seed)
		copies, uses, now := someCopies(roll, 60), someUses(roll), roll(9000)
		order := rank.Order(copies, uses, now)
		last := -1
		for _, at := range queue.Ready(copies, uses, now) {
			next := slices.Index(order, at)
			if next <= last {
				t.Fatalf("seed %d: %d stands at %d, behind %d", seed, at, next, last)
			}
			last = next
		}
	}
}
