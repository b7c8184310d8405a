package rank_test

import (
	"slices"
	"testing"

	"hanse/api"
	"hanse/rank"
)

// charges tells a fault, unless Charge answers just these uses.
func charges(t *testing.T, uses []api.Use, user, sum, now int, want ...api.Use) {
	t.Helper()
	got, e := rank.Charge(uses, user, sum, now)
	if e != api.OK || !slices.Equal(got, want) {
		t.Errorf("Charge(%v, %d, %d, %d) = %v, %d, want %v", uses, user, sum, now, got, e, want)
	}
}

// refuses tells a fault, unless Charge answers this error, and no uses beside it.
func refuses(t *testing.T, want api.Errno, uses []api.Use, user, sum, now int) {
	t.Helper()
	got, e := rank.Charge(uses, user, sum, now)
	if e != want || len(got) > 0 {
		t.Errorf("Charge(%v, %d, %d, %d) = %v, %d, want %d", uses, user, sum, now, got, e, want)
	}
}

// all answers uses of all users.
func all() []api.Use {
	var l []api.Use
	for user := range api.MaxUsers {
		l = append(l, use(user, 100*user+1, 900+10*user))
	}
	return l
}

// P11.2: each user is charged where there are no uses yet.
func TestChargeNone(t *testing.T) {
	for user := range api.MaxUsers {
		charges(t, nil, user, 7, 9, use(user, 7, 9))
		charges(t, []api.Use{}, user, 0, 0, use(user, 0, 0))
		charges(t, nil, user, most, forever, use(user, most, forever))
	}
	charges(t, nil, 3, 1, forever, use(3, 1, forever))
	charges(t, nil, 3, most-1, 0, use(3, most-1, 0))
}

// P11.2: beside the uses of one other user, ahead of it or behind, and upon its own.
func TestChargeOne(t *testing.T) {
	for one := range api.MaxUsers {
		was := use(one, 641, 1000)
		for user := range api.MaxUsers {
			switch {
			case user < one:
				charges(t, []api.Use{was}, user, 5, 2000, use(user, 5, 2000), was)
			case user > one:
				charges(t, []api.Use{was}, user, 5, 2000, was, use(user, 5, 2000))
			default:
				charges(t, []api.Use{was}, user, 5, 2000, use(user, 325, 2000))
				charges(t, []api.Use{was}, user, 5, 1000, use(user, 646, 1000))
				charges(t, []api.Use{was}, user, 0, 1023, use(user, 641, 1023))
				charges(t, []api.Use{was}, user, 0, 1024, use(user, 320, 1024))
			}
		}
	}
}

// P11.2: each of all users, with all others there, and with it alone not there.
func TestChargeAll(t *testing.T) {
	for user := range api.MaxUsers {
		uses := all()
		want := all()
		want[user] = use(user, (100*user+1)/2+9, 2047)
		if 900+10*user >= half {
			want[user].Sum = 100*user + 1 + 9
		}
		charges(t, uses, user, 9, 2047, want...)
		want[user] = use(user, 9, 2047)
		charges(t, slices.Delete(uses, user, user+1), user, 9, 2047, want...)
	}
}

// P11.2: the user first, last, between, there and not there.
func TestChargePlaces(t *testing.T) {
	l := []api.Use{use(2, 20, 5), use(5, 50, 6), use(6, 60, 7), use(13, 130, 8)}
	for _, x := range []struct {
		user, from, to, sum int
	}{{0, 0, 0, 3}, {1, 0, 0, 3}, {2, 0, 1, 23}, {3, 1, 1, 3}, {4, 1, 1, 3}, {5, 1, 2, 53}, {6, 2, 3, 63}, {7, 3, 3, 3}, {12, 3, 3, 3}, {13, 3, 4, 133}, {14, 4, 4, 3}, {15, 4, 4, 3}} {
		want := slices.Concat(l[:x.from], []api.Use{use(x.user, x.sum, 9)}, l[x.to:])
		charges(t, l, x.user, 3, 9, want...)
	}
}

// P11.2: what was used has decayed till now, and counts from now on.
func TestChargeDecays(t *testing.T) {
	for _, x := range []struct{ was, at, sum, now, want int }{
		{100, 10, 5, 1023, 105}, {100, 10, 5, 1024, 55}, {101, 10, 5, 1024, 55}, {100, 10, 5, 2048, 30}, {100, 10, 5, forever, 5},
		{100, 1024, 5, 1024, 105}, {100, 1024, 5, 1023, 105}, {100, 5000, 5, 0, 105}, {100, forever, 5, 3, 105}, {1, 1023, 1, 1024, 1}, {0, 0, 0, 0, 0}, {0, 7, 0, 9000, 0}, {9, 0, 0, 4096, 0},
	} {
		charges(t, []api.Use{use(4, x.was, x.at)}, 4, x.sum, x.now, use(4, x.want, x.now))
		charges(t, []api.Use{use(1, 9, 9), use(4, x.was, x.at), use(9, 9, 9)}, 4, x.sum, x.now, use(1, 9, 9), use(4, x.want, x.now), use(9, 9, 9))
	}
}

// P11.2: both together are 2^60 at most.
func TestChargeAtMost(t *testing.T) {
	for _, x := range []struct{ was, at, sum, now, want int }{
		{most - 1, 0, 0, 0, most - 1}, {most - 1, 0, 1, 0, most}, {most - 1, 0, 2, 0, most}, {most, 0, 0, 0, most}, {most, 0, 1, 0, most}, {0, 0, most, 0, most}, {1, 0, most, 0, most}, {1, 0, most - 1, 0, most}, {1, 0, most - 2, 0, most - 1},
		{most, 0, most, 0, most}, {most, 9, most, 3, most}, {most, 0, most / 2, 1024, most}, {most, 0, most/2 - 1, 1024, most - 1}, {most, 0, most/2 + 1, 1024, most}, {most, 0, most, 1024, most}, {most, 0, most - 1, forever, most - 1}, {most, forever, most, forever, most},
	} {
		charges(t, []api.Use{use(15, x.was, x.at)}, 15, x.sum, x.now, use(15, x.want, x.now))
		charges(t, []api.Use{use(0, most, 0), use(1, x.was, x.at), use(15, 3, 0)}, 1, x.sum, x.now, use(0, most, 0), use(1, x.want, x.now), use(15, 3, 0))
	}
}

// P11.2: all others stay as they were, however old.
func TestChargeLeavesOthers(t *testing.T) {
	for _, old := range []api.Use{use(3, 641, 0), use(3, most, 0), use(3, 1, 1023), use(3, 0, 0), use(3, 7, forever), use(3, most, forever)} {
		for _, now := range []int{0, 1023, 1024, 99 * half, forever} {
			charges(t, []api.Use{old}, 2, 4, now, use(2, 4, now), old)
			charges(t, []api.Use{old}, 4, 4, now, old, use(4, 4, now))
			charges(t, []api.Use{use(2, 0, now), old}, 2, 4, now, use(2, 4, now), old)
			charges(t, []api.Use{old, use(4, 0, now)}, 4, 4, now, old, use(4, 4, now))
		}
	}
}

// wrongUses answers lists that are not right: by each part of one use, by two users that are equal, by users that fall, at each place.
func wrongUses() [][]api.Use {
	var l [][]api.Use
	for at := range 4 {
		put := func(u api.Use) {
			uses := []api.Use{use(1, 10, 5), use(4, 40, 6), use(7, 70, 7), use(10, 100, 8)}
			uses[at] = u
			l = append(l, uses, []api.Use{u})
		}
		user := 1 + 3*at
		for _, no := range wrongUsers() {
			put(use(no, 10, 5))
		}
		for _, no := range wrongSums() {
			put(use(user, no, 5))
		}
		for _, no := range noTicks() {
			put(use(user, 10, no))
		}
	}
	for at := range 3 {
		for _, user := range []int{1 + 3*at, 3 * at, 0} {
			uses := []api.Use{use(1, 10, 5), use(4, 40, 6), use(7, 70, 7), use(10, 100, 8)}
			uses[at+1].User = user
			l = append(l, uses)
		}
	}
	falling := all()
	slices.Reverse(falling)
	l = append(l, falling, slices.Concat(all(), all()), append(all(), use(15, 0, 0)), append(all(), use(16, 0, 0)))
	for at := range api.MaxUsers - 1 {
		swapped, twice := all(), all()
		swapped[at], swapped[at+1] = swapped[at+1], swapped[at]
		twice[at+1].User = at
		l = append(l, swapped, twice)
	}
	return append(l, []api.Use{use(2, 1, 1), use(2, 1, 1)}, []api.Use{use(0, 0, 0), use(0, 0, 0)}, []api.Use{use(2, 1, 1), use(1, 1, 1)}, []api.Use{use(15, 1, 1), use(0, 1, 1)})
}

// P11.2: uses that are not right, whoever is charged.
func TestChargeErrState(t *testing.T) {
	for _, uses := range wrongUses() {
		for user := range api.MaxUsers {
			refuses(t, api.ErrState, uses, user, 5, 9)
		}
	}
}

// P11.2: users that there are not, sums that may not be, ticks that are none.
func TestChargeErrors(t *testing.T) {
	for _, uses := range [][]api.Use{nil, {use(3, 640, 0)}, {use(0, 1, 1), use(15, 1, 1)}, all()} {
		for _, no := range wrongUsers() {
			refuses(t, api.ErrUser, uses, no, 5, 9)
			refuses(t, api.ErrUser, uses, no, 0, 0)
		}
		for _, user := range []int{0, 3, 15} {
			for _, no := range wrongSums() {
				refuses(t, api.ErrAmount, uses, user, no, 9)
			}
			for _, no := range noTicks() {
				refuses(t, api.ErrTick, uses, user, 5, no)
				refuses(t, api.ErrTick, uses, user, 0, no)
			}
		}
	}
}

// P11.2, R4: of several faults the first in the chapter's order is told.
func TestChargeErrorsInOrder(t *testing.T) {
	errs := []api.Errno{api.ErrState, api.ErrUser, api.ErrAmount, api.ErrTick}
	lists := wrongUses()
	for set := 1; set < 1<<4; set++ {
		for i := range lists {
			uses, user, sum, now := all()[:i%17], 3, 5, 9
			first := api.OK
			for k, e := range errs {
				if set&(1<<k) > 0 && first == api.OK {
					first = e
				}
			}
			if set&1 > 0 {
				uses = lists[i]
			}
			if set&2 > 0 {
				user = wrongUsers()[i%7]
			}
			if set&4 > 0 {
				sum = wrongSums()[i%6]
			}
			if set&8 > 0 {
				now = noTicks()[i/2%6]
			}
			refuses(t, first, uses, user, sum, now)
		}
	}
}

// P11.2: what Charge answers are right uses, which can be charged again.
func TestChargeAgain(t *testing.T) {
	var uses []api.Use
	for i, user := range []int{9, 0, 15, 4, 9, 3, 15, 0, 9, 14, 1, 2, 5, 6, 7, 8, 10, 11, 12, 13} {
		want, _ := charged(uses, user, 100+i, 400*i)
		charges(t, uses, user, 100+i, 400*i, want...)
		uses = want
	}
	if len(uses) != api.MaxUsers {
		t.Errorf("%d users", len(uses))
	}
	charges(t, []api.Use{use(1, 100, 0)}, 1, 10, 1024, use(1, 60, 1024))
	charges(t, []api.Use{use(1, 60, 1024)}, 1, 10, 2048, use(1, 40, 2048))
}
