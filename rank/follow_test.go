package rank_test

import (
	"slices"
	"testing"

	"hanse/api"
	"hanse/rank"
)

// waiting answers copies of some bases, users and IDs, that came at some ticks behind a first one.
func waiting(first int) []api.Copy {
	var l []api.Copy
	for i, base := range []int{0, 1, 2, 99, 100, 101, mostInt, -1, leastInt, 0, 1, 0} {
		for k, behind := range []int{0, 1, 1, 7, 1000, 2047} {
			l = append(l, of((i+k)%3, i*k%5, (i+3*k)%18-1, base, first+behind))
		}
	}
	return l
}

// P11.5: without uses, who stands ahead at one tick stands ahead at each later one, while all are there and none is AgeCap old at the one ahead.
func TestWhoIsAheadStaysAhead(t *testing.T) {
	for _, first := range []int{0, 5, 3 * half, forever - 3000, forever - api.AgeCap} {
		copies := waiting(first)
		there := first + 2047
		want := rank.Order(copies, nil, there)
		if !slices.Equal(want, ordered(copies, nil, there)) {
			t.Fatalf("at %d they stand as %v", there, want)
		}
		for now := there; now <= min(first+api.AgeCap, forever); now++ {
			if got := rank.Order(copies, nil, now); !slices.Equal(got, want) {
				t.Fatalf("at %d they stand as %v, at %d as %v", there, want, now, got)
			}
		}
	}
}

// P11.5: of each two, from the tick on at which both are there.
func TestWhoIsAheadOfOneStaysAhead(t *testing.T) {
	copies := waiting(40)
	for i := range copies {
		for k := range i {
			two := []api.Copy{copies[i], copies[k]}
			from, to := max(two[0].Since, two[1].Since), min(two[0].Since, two[1].Since)+api.AgeCap
			want := rank.Order(two, nil, from)
			for _, now := range []int{from + 1, from + 2, from + 100, (from + to) / 2, to - 2, to - 1, to} {
				if got := rank.Order(two, nil, now); !slices.Equal(got, want) {
					t.Errorf("%v stand as %v at %d, as %v at %d", two, want, from, got, now)
				}
			}
		}
	}
}

// P11.3, P11.4: who is AgeCap old may be overtaken by one of a greater base: there alone it does not follow.
func TestWhoIsOldMayBeOvertaken(t *testing.T) {
	old, next := of(0, 1, 0, 0, 0), of(0, 2, 0, 1, 5000)
	ahead(t, old, next, nil, 5000)
	ahead(t, next, old, nil, 5001)
}

// sums answers what may have been used, each more than the one ahead of it.
func sums() []int {
	var l []int
	for sum := range 700 {
		l = append(l, sum)
	}
	for bits := 10; bits <= 60; bits++ {
		l = append(l, 1<<bits-64, 1<<bits-1, 1<<bits)
		if bits < 60 {
			l = append(l, 1<<bits+1, 1<<bits+64)
		}
	}
	return l
}

// P11.5: who has used more has no greater rank by that, and at last a lesser one; all others have the rank they had.
func TestMoreUsedNoGreater(t *testing.T) {
	for _, now := range []int{0, 1023, 1024, 5000, 40 * half, forever, -1} {
		for _, c := range []api.Copy{of(0, 1, 3, 0, 0), of(0, 1, 3, 2, 500), of(0, 1, 3, 100, forever), of(0, 1, 3, -1, -1), of(0, 1, 4, 1, 0), of(0, 1, -1, 1, 0)} {
			first := rank.Of(c, []api.Use{use(5, 9, 9)}, now)
			last := first
			for _, sum := range sums() {
				got := rank.Of(c, []api.Use{use(3, sum, 0), use(5, 9, 9)}, now)
				if got > last || c.Job.User != 3 && got != first {
					t.Errorf("%v at %d: %d, and %d by a sum of %d", c, now, last, got, sum)
				}
				last = got
			}
			if charged := c.Job.User == 3 && now >= 0 && now < forever; charged != (last < first) {
				t.Errorf("%v at %d: %d without uses, %d by the greatest sum", c, now, first, last)
			}
		}
	}
}

// P11.5: who is charged has no greater rank by that, at once and later on, and all others have the rank they had.
func TestChargedNoGreater(t *testing.T) {
	for seed := range uint64(400) {
		roll := dice(seed)
		uses := someUses(roll)
		user, now := roll(16), someTick(roll)
		more, e := rank.Charge(uses, user, someSum(roll), now)
		if e != api.OK {
			continue
		}
		later := min(now+roll(9)*half+roll(half), forever)
		if slices.ContainsFunc(uses, func(u api.Use) bool { return u.User == user && u.At > now }) {
			// What counts from an earlier tick on is halved more often later on.
			later = now
		}
		for _, c := range someCopies(roll, 20) {
			for _, at := range []int{now, later} {
				one, other := rank.Of(c, uses, at), rank.Of(c, more, at)
				if other > one || c.Job.User != user && other != one {
					t.Errorf("seed %d: %v at %d: %d, and %d as %d is charged at %d", seed, c, at, one, other, user, now)
				}
			}
		}
	}
}

// P11.5: who is charged comes ahead of nobody by that.
func TestChargedNotAhead(t *testing.T) {
	for seed := range uint64(300) {
		roll := dice(seed)
		uses, copies := someUses(roll), someCopies(roll, 25)
		user, now := roll(3), someTick(roll)
		more, e := rank.Charge(uses, user, someSum(roll), now)
		if e != api.OK {
			continue
		}
		before, after := rank.Order(copies, uses, now), rank.Order(copies, more, now)
		for i, behind := range before {
			if copies[behind].Job.User != user {
				continue
			}
			for _, other := range before[:i] {
				if copies[other].Job.User != user && slices.Index(after, other) > slices.Index(after, behind) {
					t.Errorf("seed %d: %d comes ahead of %d, as its user is charged", seed, behind, other)
				}
			}
		}
	}
}
