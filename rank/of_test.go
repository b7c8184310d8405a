package rank_test

import (
	"testing"

	"hanse/api"
	"hanse/rank"
)

// is tells a fault, unless this is the copy's rank.
func is(t *testing.T, c api.Copy, uses []api.Use, now, want int) {
	t.Helper()
	if got := rank.Of(c, uses, now); got != want {
		t.Errorf("Of(%v, %v, %d) = %d, want %d", c, uses, now, got, want)
	}
}

// P11.3: what all three make together.
func TestOf(t *testing.T) {
	uses := []api.Use{use(3, 640, 0), use(4, most, 0)}
	for _, x := range []struct {
		c         api.Copy
		now, want int
	}{
		{of(0, 1, 0, 2, 5), 15, 8202}, {of(0, 1, 3, 2, 5), 15, 8192}, {of(0, 1, 3, 2, 1014), 1024, 8197}, {of(0, 1, 3, 0, 0), 0, -10}, {of(0, 1, 4, 0, 0), 0, -4096}, {of(0, 1, 4, 1, 0), 1, 1},
		{of(0, 1, 5, 100, 0), 4096, 413696}, {of(0, 1, 4, 100, 0), 4096, 409600}, {of(0, 1, 3, 0, 0), forever, 4096}, {of(0, 1, 0, 0, 0), 0, 0}, {of(9, 9, 3, 1, 9), 9, 4086},
	} {
		is(t, x.c, uses, x.now, x.want)
	}
}

// P11.3: a base counts from 0 to MaxBase.
func TestOfBase(t *testing.T) {
	for base := range api.MaxBase + 1 {
		is(t, of(0, 1, 0, base, 5), nil, 15, 4096*base+10)
	}
	for _, below := range []int{-1, -2, -100, -1 << 51, -1 << 52, leastInt + 1, leastInt} {
		is(t, of(0, 1, 0, below, 5), nil, 15, 10)
		is(t, of(0, 1, 3, below, 5), []api.Use{use(3, 640, 0)}, 5, -10)
	}
	for _, above := range []int{101, 102, 4096, 1 << 51, 1 << 52, mostInt - 1, mostInt} {
		is(t, of(0, 1, 0, above, 5), nil, 15, 409610)
		is(t, of(0, 1, 3, above, 5), []api.Use{use(3, 640, 0)}, 5, 409590)
	}
}

// P11.3: an age counts from 0 to AgeCap.
func TestOfAge(t *testing.T) {
	for _, since := range []int{0, 1, 77, half, 5 * half, forever - 5000, forever - api.AgeCap, forever - api.AgeCap - 1} {
		for _, age := range []int{0, 1, 2, 77, half, 4094, 4095, 4096} {
			if since+age <= forever {
				is(t, of(0, 1, 0, 1, since), nil, since+age, 4096+age)
			}
		}
		for _, age := range []int{4097, 4098, 5000, 1 << 20} {
			if since+age <= forever {
				is(t, of(0, 1, 0, 1, since), nil, since+age, 8192)
			}
		}
		for _, ahead := range []int{1, 2, 4096, 4097, since} {
			if ahead <= since {
				is(t, of(0, 1, 0, 1, since), nil, since-ahead, 4096)
			}
		}
	}
	is(t, of(0, 1, 0, 0, 0), nil, forever, 4096)
	is(t, of(0, 1, 0, 0, forever), nil, forever, 0)
	is(t, of(0, 1, 0, 0, forever-1), nil, forever, 1)
	is(t, of(0, 1, 0, 0, forever), nil, 0, 0)
}

// P11.3: where Since is no tick, nothing is waited, but the share counts.
func TestOfSinceNoTick(t *testing.T) {
	for _, no := range noTicks() {
		for _, now := range []int{0, 5, 1023, forever} {
			is(t, of(0, 1, 0, 2, no), nil, now, 8192)
		}
		is(t, of(0, 1, 3, 2, no), []api.Use{use(3, 640, 0)}, 5, 8182)
		is(t, of(0, 1, 3, 2, no), []api.Use{use(3, 640, 0)}, 1024, 8187)
	}
}

// P11.3: where now is no tick, the base alone counts.
func TestOfNowNoTick(t *testing.T) {
	for _, now := range noTicks() {
		for _, since := range append(noTicks(), 0, 5, forever) {
			is(t, of(0, 1, 0, 2, since), nil, now, 8192)
			is(t, of(0, 1, 3, 2, since), []api.Use{use(3, 640, 0)}, now, 8192)
			is(t, of(0, 1, 3, 2, since), []api.Use{use(3, most, forever)}, now, 8192)
			is(t, of(0, 1, 3, 2, since), []api.Use{use(3, most, 0), use(2, 1, 1)}, now, 8192)
		}
	}
}

// P11.3: what was used over 64, rounded down, is 4096 at most.
func TestOfShare(t *testing.T) {
	for _, x := range []struct{ sum, share int }{
		{0, 0}, {1, 0}, {63, 0}, {64, 1}, {65, 1}, {127, 1}, {128, 2}, {129, 2}, {640, 10}, {6399, 99}, {6400, 100},
		{64*4095 - 1, 4094}, {64 * 4095, 4095}, {64*4096 - 1, 4095}, {64 * 4096, 4096}, {64*4096 + 1, 4096}, {64*4097 - 1, 4096}, {64 * 4097, 4096}, {64 * 8192, 4096}, {1 << 40, 4096}, {most - 1, 4096}, {most, 4096},
	} {
		is(t, of(0, 1, 3, 2, 5), []api.Use{use(3, x.sum, 5)}, 15, 8202-x.share)
		is(t, of(0, 1, 3, 2, 5), []api.Use{use(3, x.sum, forever)}, 15, 8202-x.share)
		is(t, of(0, 1, 3, 0, 0), []api.Use{use(3, x.sum, 0)}, 0, -x.share)
	}
	for k := range 4096 {
		is(t, of(0, 1, 3, 0, 0), []api.Use{use(3, 64*k+63, 0)}, 0, -k)
	}
}

// P11.3: it is the sum at now that is parted and capped.
func TestOfShareDecays(t *testing.T) {
	for _, x := range []struct{ sum, at, now, share int }{
		{640, 0, 1023, 10}, {640, 0, 1024, 5}, {640, 1024, 1025, 10}, {640, 1025, 1024, 10}, {127, 0, 1024, 0}, {128, 0, 1024, 1}, {129, 0, 1024, 1}, {191, 0, 1024, 1}, {192, 0, 1024, 1}, {255, 0, 1024, 1}, {256, 0, 1024, 2},
		{2 * 64 * 4096, 0, 1023, 4096}, {2 * 64 * 4096, 0, 1024, 4096}, {2*64*4096 - 1, 0, 1024, 4095}, {2 * 64 * 4096, 0, 2048, 2048}, {most, 0, 41 * 1024, 4096}, {most, 0, 42 * 1024, 4096}, {most, 0, 43 * 1024, 2048}, {most, 0, 54 * 1024, 1}, {most, 0, 55 * 1024, 0}, {most, 0, forever, 0},
	} {
		is(t, of(0, 1, 3, 1, x.now), []api.Use{use(3, x.sum, x.at)}, x.now, 4096-x.share)
	}
}

// P11.3: the user's own uses count, first, last and between, and no other's.
func TestOfShareOfTheUser(t *testing.T) {
	uses := []api.Use{use(2, 64*2, 0), use(5, 64*5, 0), use(6, 64*6, 0), use(13, 64*13, 0)}
	for _, x := range []struct{ user, share int }{
		{0, 0}, {1, 0}, {2, 2}, {3, 0}, {4, 0}, {5, 5}, {6, 6}, {7, 0}, {12, 0}, {13, 13}, {14, 0}, {15, 0}, {16, 0}, {-1, 0}, {leastInt, 0}, {mostInt, 0},
	} {
		is(t, of(0, 1, x.user, 1, 0), uses, 0, 4096-x.share)
		is(t, of(0, 1, x.user, 1, 0), nil, 0, 4096)
		is(t, of(0, 1, x.user, 1, 0), []api.Use{}, 0, 4096)
	}
	for user := range api.MaxUsers {
		is(t, of(0, 1, user, 1, 2000), all(), 2000, points(of(0, 1, user, 1, 2000), all(), 2000))
		is(t, of(0, 1, user, 0, 9), []api.Use{use(user, 64, 9)}, 9, -1)
	}
}

// P11.3: uses that are not right are none, for each user, the wrong ones too.
func TestOfUsesNotRight(t *testing.T) {
	for _, uses := range wrongUses() {
		for _, u := range uses {
			is(t, of(0, 1, u.User, 2, 5), uses, 15, 8202)
			is(t, of(0, 1, u.User, 2, 5), uses, 5, 8192)
		}
		for user := range api.MaxUsers {
			is(t, of(0, 1, user, 2, 5), uses, 15, 8202)
		}
	}
	for _, uses := range [][]api.Use{
		{use(3, 640, 0), use(3, 0, 0)}, {use(3, 640, 0), use(2, 0, 0)}, {use(4, 0, 0), use(3, 640, 0)}, {use(3, 640, 0), use(16, 0, 0)}, {use(-1, 0, 0), use(3, 640, 0)},
		{use(3, 640, 0), use(4, -1, 0)}, {use(2, most+1, 0), use(3, 640, 0)}, {use(3, 640, 0), use(4, 0, -1)}, {use(2, 0, forever+1), use(3, 640, 0)},
	} {
		is(t, of(0, 1, 3, 2, 5), uses, 15, 8202)
	}
}

// P11.3: all else that a copy and its job have is not looked at.
func TestOfLooksAtNothingElse(t *testing.T) {
	uses := []api.Use{use(3, 640, 0)}
	for _, n := range []int{leastInt, -1, 0, 1, 9, mostInt} {
		c := api.Copy{
			Job:   api.Job{ID: api.ID{At: n, N: n}, User: 3, Need: complex(float64(n), -0.5), Wall: n, Run: n, Base: 2, After: n, Sites: []int{n, n}, Pact: n < 0},
			St:    n,
			Since: 5,
			Low:   n,
			Token: n,
			At:    n,
			How:   n,
			End:   n,
		}
		is(t, c, uses, 15, 8192)
	}
}
