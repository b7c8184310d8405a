package resv_test

import (
	"slices"
	"testing"

	"hanse/api"
	"hanse/resv"
)

// expires tells a fault, unless Expire answers just these lists.
func expires(t *testing.T, l []api.Resv, now int, left, gone []api.Resv) {
	t.Helper()
	a, b := resv.Expire(l, now)
	if !slices.Equal(a, left) || !slices.Equal(b, gone) {
		t.Errorf("Expire(%v, %d): %v and %v", l, now, a, b)
	}
}

// goes tells a fault, unless one that ends at `to`, until that tick, is gone by now, or not.
func goes(t *testing.T, to int, safe bool, until, now int, want bool) {
	t.Helper()
	r := api.Resv{ID: api.ID{At: 1, N: 2}, N: 3, Busy: busy(to-1, to, 1), Sure: safe, Until: until}
	if want {
		expires(t, []api.Resv{r}, now, nil, []api.Resv{r})
	} else {
		expires(t, []api.Resv{r}, now, []api.Resv{r}, nil)
	}
}

// P9.3: ahead of, at and behind Until and Busy.To.
func TestExpireAtItsTick(t *testing.T) {
	for _, at := range []int{20, 1, 0, -5, forever, leastInt + 2, mostInt - 2} {
		for _, now := range []int{at - 1, at, at + 1} {
			over := now >= at
			goes(t, at, true, 0, now, over)
			goes(t, at, true, leastInt, now, over)
			goes(t, at, true, mostInt, now, over)
			goes(t, at, false, mostInt, now, over)
			goes(t, at, false, at, now, over)
			goes(t, mostInt, false, at, now, over)
			goes(t, mostInt, true, at, now, false)
			goes(t, at+1, false, at, now, over)
			goes(t, at, false, at+1, now, over)
		}
	}
}

// P9.3: at the least and the greatest int.
func TestExpireAtTheEnds(t *testing.T) {
	for _, safe := range []bool{false, true} {
		goes(t, mostInt, safe, mostInt, mostInt, true)
		goes(t, 5, safe, 5, mostInt, true)
		goes(t, leastInt+1, safe, mostInt, leastInt, false)
		goes(t, 5, safe, leastInt, leastInt, !safe)
		goes(t, 5, safe, 5, leastInt, false)
		goes(t, 5, safe, 0, -1, false)
		goes(t, 5, safe, -1, -1, !safe)
	}
	least := api.Resv{N: 1, Busy: busy(0, leastInt, 1), Sure: true}
	expires(t, []api.Resv{least}, leastInt, nil, []api.Resv{least})
}

// P9.3: when it begins is nothing that counts, nor what it needs.
func TestExpireLooksAtNothingElse(t *testing.T) {
	for _, from := range []int{leastInt, -1, 0, 9, 10, 11, 30, mostInt} {
		for _, need := range []complex128{0, 1, great, -0.5} {
			r := api.Resv{N: 1, Busy: busy(from, 20, need), Sure: true}
			expires(t, []api.Resv{r}, 10, []api.Resv{r}, nil)
			expires(t, []api.Resv{r}, 20, nil, []api.Resv{r})
			r.Sure, r.Until = false, 11
			expires(t, []api.Resv{r}, 10, []api.Resv{r}, nil)
			expires(t, []api.Resv{r}, 11, nil, []api.Resv{r})
		}
	}
}

// P9.3: no list, nothing gone, all gone.
func TestExpireNoneAndAll(t *testing.T) {
	for _, now := range []int{leastInt, -1, 0, 5, mostInt} {
		expires(t, nil, now, nil, nil)
		expires(t, []api.Resv{}, now, nil, nil)
	}
	for _, many := range []int{1, api.MaxResvs, api.MaxResvs + 1, 500} {
		l := clients(many)
		expires(t, l, 0, l, nil)
		expires(t, l, 50, nil, l)
	}
}

// P9.3: what is left and what is gone stand in the list's order, and are the list together.
func TestExpireKeepsTheOrder(t *testing.T) {
	kinds := []api.Resv{{N: 1, Busy: busy(1, 9, 1), Sure: true}, {N: 2, Busy: busy(1, 9, 1), Until: 6}, {N: 2, Busy: busy(1, 5, 1), Sure: true}, {N: 1, Busy: busy(1, 5, 1), Until: 9}, {N: 1, Busy: busy(1, 9, 1), Until: 5}}
	over := []bool{false, false, true, true, true}
	for code := range 5 * 5 * 5 * 5 * 5 {
		var l, left, gone []api.Resv
		for range 5 {
			r := kinds[code%5]
			l = append(l, r)
			if over[code%5] {
				gone = append(gone, r)
			} else {
				left = append(left, r)
			}
			code /= 5
		}
		expires(t, l, 5, left, gone)
	}
}
