package resv_test

import (
	"slices"
	"testing"

	"hanse/api"
	"hanse/resv"
)

// behind tells whether a comes behind b, in the order of the chapter.
func behind(a, b api.Resv) bool {
	if a.ID.At != b.ID.At {
		return a.ID.At > b.ID.At
	}
	if a.ID.N != b.ID.N {
		return a.ID.N > b.ID.N
	}
	return a.N > b.N
}

// placed answers l with r where the chapter wants it.
func placed(l []api.Resv, r api.Resv) []api.Resv {
	at := 0
	for i := range l {
		if !behind(l[i], r) {
			at = i + 1
		}
	}
	return slices.Concat(l[:at], []api.Resv{r}, l[at:])
}

// places tells a fault, unless r comes to stand there in l.
func places(t *testing.T, l []api.Resv, r api.Resv, at int) {
	t.Helper()
	is(t, "Add", adds(t, 1, nil, l, r), slices.Concat(l[:at], []api.Resv{r}, l[at:])...)
}

// P9.1: the place in a list that is in order.
func TestPlaceInOrder(t *testing.T) {
	l := []api.Resv{key(0, 0, 2, 0), key(0, 0, 5, 0), key(1, 3, 4, 0), key(1, 3, 6, 0), key(1, 5, 1, 0), key(3, 0, 0, 0)}
	for _, x := range []struct {
		r  api.Resv
		at int
	}{
		{key(0, 0, 1, 0), 0}, {key(0, 0, -1, 0), 0}, {key(-1, 9, 9, 0), 0}, {key(0, -1, 9, 0), 0}, {key(leastInt, 0, 0, 0), 0},
		{key(0, 0, 3, 0), 1}, {key(0, 0, 6, 0), 2}, {key(0, 0, mostInt, 0), 2}, {key(0, 1, 0, 0), 2}, {key(1, 2, 9, 0), 2}, {key(1, 3, 3, 0), 2}, {key(1, 3, leastInt, 0), 2},
		{key(1, 3, 5, 0), 3}, {key(1, 3, 7, 0), 4}, {key(1, 4, 0, 0), 4}, {key(1, 5, 0, 0), 4}, {key(1, 5, 2, 0), 5}, {key(2, 0, 0, 0), 5}, {key(2, mostInt, 0, 0), 5}, {key(3, leastInt, 0, 0), 5},
		{key(3, 0, 1, 0), 6}, {key(3, 1, -5, 0), 6}, {key(mostInt, leastInt, leastInt, 0), 6},
	} {
		places(t, l, x.r, x.at)
	}
}

// P9.1: behind the last one that it is not ahead of, in a list in no order.
func TestPlaceInNoOrder(t *testing.T) {
	l := []api.Resv{key(5, 0, 0, 0), key(1, 0, 0, 0), key(9, 0, 0, 0), key(2, 0, 0, 0), key(7, 0, 0, 0)}
	for at, want := range []int{0, 2, 4, 4, 4, 4, 4, 5, 5, 5, 5} {
		places(t, l, key(at, 0, 1, 0), want)
	}
	places(t, []api.Resv{key(2, 0, 0, 0), key(1, 0, 0, 0)}, key(1, 5, 0, 0), 2)
	places(t, []api.Resv{key(2, 0, 0, 0), key(1, 0, 0, 0)}, key(0, 5, 0, 0), 0)
	places(t, []api.Resv{key(1, 0, 0, 0), key(2, 0, 0, 0), key(2, 0, 0, 1), key(1, 0, 0, 1), key(3, 0, 0, 0)}, key(1, 0, 1, 0), 4)
}

// P9.1: in all lists of four keys, in order or not, doubled or not.
func TestPlaceInAllShortLists(t *testing.T) {
	var keys []api.Resv
	for at := range 2 {
		for n := range 2 {
			for round := range 2 {
				keys = append(keys, key(at, n, round, 0))
			}
		}
	}
	var walk func(l []api.Resv)
	walk = func(l []api.Resv) {
		for _, r := range keys {
			r.Until = 5
			twice := slices.ContainsFunc(l, func(x api.Resv) bool { return x.ID == r.ID && x.N == r.N })
			more, e := resv.Add(0, nil, l, r)
			if twice != (e == api.ErrTwice) || !twice && (e != api.OK || !slices.Equal(more, placed(l, r))) {
				t.Fatalf("Add of %v to %v: %v, %d", r, l, more, e)
			}
		}
		if len(l) == 4 {
			return
		}
		for i, k := range keys {
			k.Until = i + 10*len(l)
			walk(append(slices.Clone(l), k))
		}
	}
	walk(nil)
}
