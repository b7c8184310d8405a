package rank_test

import (
	"testing"

	"hanse/api"
	"hanse/rank"
)

// decays tells a fault, unless this is what is left of the use.
func decays(t *testing.T, u api.Use, now, want int) {
	t.Helper()
	got, e := rank.Decayed(u, now)
	if got != want || e != api.OK {
		t.Errorf("Decayed(%v, %d) = %d, %d, want %d", u, now, got, e, want)
	}
}

// noTick tells a fault, unless Decayed answers ErrTick, and 0 beside it.
func noTick(t *testing.T, u api.Use, now int) {
	t.Helper()
	got, e := rank.Decayed(u, now)
	if got != 0 || e != api.ErrTick {
		t.Errorf("Decayed(%v, %d) = %d, %d, want ErrTick", u, now, got, e)
	}
}

// P11.1: what is left of some sums.
func TestDecayed(t *testing.T) {
	for _, x := range []struct{ sum, at, now, want int }{
		{640, 0, 1024, 320}, {640, 0, 0, 640}, {640, 500, 700, 640}, {640, 1023, 1024, 320}, {640, 1024, 1025, 640}, {640, 0, 2047, 320}, {640, 0, 2048, 160},
		{1, 0, 1023, 1}, {1, 0, 1024, 0}, {0, 0, 0, 0}, {0, 0, 9000, 0}, {0, 9000, 0, 0}, {3, 0, 1024, 1}, {3, 0, 2048, 0},
		{7, 1, 1024, 3}, {7, 1, 2048, 1}, {7, 1, 3071, 1}, {7, 1, 3072, 0}, {13, 0, 1024, 6}, {13, 0, 2048, 3}, {13, 0, 3072, 1}, {999, 100, 5000, 62},
		{most, 0, 1024, 1 << 59}, {most - 1, 0, 1024, 1<<59 - 1}, {most - 1, 0, 2048, 1<<58 - 1}, {most, 0, 60*1024 - 1, 2}, {most, 0, 60 * 1024, 1}, {most, 0, 61*1024 - 1, 1}, {most, 0, 61 * 1024, 0},
		{most - 1, 0, 59 * 1024, 1}, {most - 1, 0, 60 * 1024, 0},
	} {
		decays(t, use(3, x.sum, x.at), x.now, x.want)
	}
}

// P11.1: whose sum it is makes no difference.
func TestDecayedOfEachUser(t *testing.T) {
	for user := range api.MaxUsers {
		decays(t, use(user, 641, 1000), 1023, 641)
		decays(t, use(user, 641, 1000), 1024, 320)
		decays(t, use(user, 641, 1000), 999, 641)
	}
}

// P11.1: now at a multiple of HalfLife, one less, one more.
func TestDecayedAtEachHalfLife(t *testing.T) {
	for _, sum := range []int{0, 1, 2, 3, 639, 640, 641, 1<<59 - 1, most - 1, most} {
		for _, from := range []int{0, 1, half - 1} {
			want := sum
			for k := 1; k < 70; k++ {
				decays(t, use(0, sum, from), k*half-1, want)
				want /= 2
				decays(t, use(0, sum, from), k*half, want)
				decays(t, use(0, sum, from), k*half+1, want)
			}
		}
	}
}

// P11.1: At at a multiple of HalfLife, one less, one more.
func TestDecayedFromEachHalfLife(t *testing.T) {
	for _, k := range []int{1, 2, 3, 10, 61, 1000, forever/half - 1} {
		at := k * half
		for _, sum := range []int{1, 641, most - 1, most} {
			for _, x := range []struct{ at, now, halves int }{
				{at - 1, at - 1, 0}, {at - 1, at, 1}, {at - 1, at + 1, 1}, {at - 1, at + half - 1, 1}, {at - 1, at + half, 2},
				{at, at, 0}, {at, at + 1, 0}, {at, at + half - 1, 0}, {at, at + half, 1},
				{at + 1, at + 1, 0}, {at + 1, at + half - 1, 0}, {at + 1, at + half, 1},
			} {
				want := sum
				for range x.halves {
					want /= 2
				}
				decays(t, use(0, sum, x.at), x.now, want)
			}
		}
	}
}

// P11.1: many half-lives on.
func TestDecayedLongAgo(t *testing.T) {
	for _, halves := range []int{61, 62, 63, 64, 65, 127, 128, 129, 255, 256, 257, 1 << 16, 1 << 20, forever / half} {
		for _, sum := range []int{0, 1, 640, most - 1, most} {
			decays(t, use(1, sum, 0), halves*half, 0)
			decays(t, use(1, sum, forever-halves*half), forever, 0)
		}
	}
	for n := range 61 {
		decays(t, use(1, most, 5), n*half, 1<<(60-n))
		decays(t, use(1, most, forever-n*half), forever, 1<<(60-n))
		decays(t, use(1, 1<<n, 0), (n+1)*half-1, 1)
		decays(t, use(1, 1<<n, 0), (n+1)*half, 0)
	}
}

// P11.1: nothing is halved, where now lies ahead of At, however far.
func TestDecayedAheadOfAt(t *testing.T) {
	for _, sum := range []int{0, 1, 7, 640, most} {
		for _, at := range []int{1, half, half + 1, 5 * half, 64 * half, 65*half - 1, forever - 1, forever} {
			for _, now := range []int{0, 1, half - 1, half, at / 2, at - half, at - 1, at} {
				if now >= 0 && now <= at {
					decays(t, use(2, sum, at), now, sum)
				}
			}
		}
	}
}

// P11.1: the first tick and the last one.
func TestDecayedAtTheEnds(t *testing.T) {
	for _, sum := range []int{0, 1, 9, most} {
		decays(t, use(15, sum, 0), 0, sum)
		decays(t, use(15, sum, forever), 0, sum)
		decays(t, use(15, sum, forever), forever, sum)
		decays(t, use(15, sum, forever), forever-1, sum)
		decays(t, use(15, sum, 0), forever, 0)
		decays(t, use(15, sum, forever-1), forever, sum/2)
		decays(t, use(15, sum, forever-half), forever, sum/2)
		decays(t, use(15, sum, forever-half-1), forever, sum/4)
		decays(t, use(15, sum, forever-half), forever-1, sum)
	}
}

// wrongUsers, wrongSums and noTicks are what makes one use not right.
func wrongUsers() []int { return []int{-1, 16, 17, -16, 1 << 32, leastInt, mostInt} }
func wrongSums() []int  { return []int{-1, most + 1, -most, 1 << 61, leastInt, mostInt} }
func noTicks() []int    { return []int{-1, forever + 1, -half, 2 * forever, leastInt, mostInt} }

// P11.1: each thing that is not right by itself.
func TestDecayedErrTick(t *testing.T) {
	for _, now := range []int{0, 5, half, forever} {
		for _, no := range wrongUsers() {
			noTick(t, use(no, 640, 10), now)
			noTick(t, use(no, 0, 0), now)
		}
		for _, no := range wrongSums() {
			noTick(t, use(3, no, 10), now)
			noTick(t, use(0, no, 0), now)
		}
		for _, no := range noTicks() {
			noTick(t, use(3, 640, no), now)
			noTick(t, use(0, 0, no), now)
		}
	}
	for _, no := range noTicks() {
		noTick(t, use(3, 640, 10), no)
		noTick(t, use(0, 0, 0), no)
		noTick(t, use(15, most, forever), no)
	}
}

// P11.1: several that are not right at once.
func TestDecayedErrTickOfSeveral(t *testing.T) {
	for set := 1; set < 1<<4; set++ {
		for i := range 6 {
			u, now := use(3, 640, 10), 20
			if set&1 > 0 {
				u.User = wrongUsers()[i]
			}
			if set&2 > 0 {
				u.Sum = wrongSums()[i]
			}
			if set&4 > 0 {
				u.At = noTicks()[i]
			}
			if set&8 > 0 {
				now = noTicks()[5-i]
			}
			noTick(t, u, now)
		}
	}
}
