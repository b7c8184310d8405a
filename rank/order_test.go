package rank_test

import (
	"slices"
	"testing"

	"hanse/api"
	"hanse/rank"
)

// stand tells a fault, unless the copies stand just so.
func stand(t *testing.T, copies []api.Copy, uses []api.Use, now int, want ...int) {
	t.Helper()
	if got := rank.Order(copies, uses, now); !slices.Equal(got, want) {
		t.Errorf("Order(%v, %v, %d) = %v, want %v", copies, uses, now, got, want)
	}
}

// ahead tells a fault, unless a stands ahead of b, wherever they are handed in.
func ahead(t *testing.T, a, b api.Copy, uses []api.Use, now int) {
	t.Helper()
	stand(t, []api.Copy{a, b}, uses, now, 0, 1)
	stand(t, []api.Copy{b, a}, uses, now, 1, 0)
}

// P11.4: none, and one, whatever it is.
func TestOrderOfFew(t *testing.T) {
	for _, now := range append(noTicks(), 0, 5, forever) {
		for _, uses := range [][]api.Use{nil, all(), wrongUses()[0]} {
			stand(t, nil, uses, now)
			stand(t, []api.Copy{}, uses, now)
			stand(t, []api.Copy{{}}, uses, now, 0)
			stand(t, []api.Copy{of(mostInt, leastInt, 16, -1, leastInt)}, uses, now, 0)
		}
	}
}

// P11.4: a greater rank first, whatever Since, IDs and places are.
func TestOrderByOf(t *testing.T) {
	ahead(t, of(1, 1, 0, 1, 5), of(1, 1, 0, 0, 5), nil, 5)
	ahead(t, of(1, 1, 0, 100, 5), of(1, 1, 0, 99, 5), nil, 9999)
	ahead(t, of(1, 1, 0, 1, 5), of(1, 1, 3, 1, 5), []api.Use{use(3, 64, 5)}, 5)
	ahead(t, of(1, 1, 0, 0, 5), of(1, 1, 3, 0, 5), []api.Use{use(3, most, 5)}, 5)
	ahead(t, of(1, 1, 2, 0, 5), of(1, 1, 3, 0, 5), []api.Use{use(2, 127, 5), use(3, 128, 5)}, 5)
	ahead(t, of(9, 9, 0, 1, 9), of(0, 0, 0, 0, 0), nil, 4000)
	ahead(t, of(9, 9, 0, 0, 4), of(0, 0, 0, 0, 5), nil, 10)
	ahead(t, of(9, 9, 0, 0, 10), of(0, 0, 3, 0, 0), []api.Use{use(3, 64*11, 5)}, 10)
	ahead(t, of(0, 0, 3, 0, 0), of(9, 9, 0, 0, 10), []api.Use{use(3, 64*9, 5)}, 10)
	ahead(t, of(9, 9, 0, 1, 9), of(0, 0, 0, 0, 0), nil, -1)
	ahead(t, of(9, 9, 0, 1, mostInt), of(0, 0, 0, 0, leastInt), nil, 9)
}

// P11.4: of one rank, less Since first, whatever IDs and places are, a tick or none.
func TestOrderBySince(t *testing.T) {
	for _, x := range []struct{ less, more, now int }{
		{5, 6, 4}, {5, 6, 5}, {0, 1, 0}, {0, 1, 5000}, {0, 900, 4996}, {0, 1, -1}, {3, 4, forever + 1}, {-2, -1, 9}, {-1, forever + 1, 9}, {leastInt, -1, 9}, {leastInt, mostInt, 0}, {forever + 1, mostInt, 9}, {-1, 9, 9}, {-1, 9, 8}, {9, forever + 1, 9}, {0, forever, forever + 1}, {0, forever, -1}, {0, forever - 4096, forever},
	} {
		ahead(t, of(1, 1, 0, 1, x.less), of(1, 1, 0, 1, x.more), nil, x.now)
		ahead(t, of(9, 9, 0, 1, x.less), of(0, 0, 0, 1, x.more), nil, x.now)
	}
	ahead(t, of(9, 9, 0, 0, 0), of(0, 0, 0, 1, 4096), nil, 4096)
	ahead(t, of(9, 9, 3, 0, 0), of(0, 0, 0, 0, 10), []api.Use{use(3, 640, 0)}, 20)
}

// P11.4: of one rank and Since, by the order of IDs: by At, then by N, whatever places are.
func TestOrderByID(t *testing.T) {
	for _, x := range []struct{ a, b api.ID }{
		{api.ID{At: 1, N: 5}, api.ID{At: 2, N: 5}}, {api.ID{At: 1, N: 9}, api.ID{At: 2, N: 0}}, {api.ID{At: 0, N: mostInt}, api.ID{At: 1, N: leastInt}}, {api.ID{At: leastInt, N: 0}, api.ID{At: mostInt, N: 0}}, {api.ID{At: -1, N: 0}, api.ID{At: 0, N: 0}},
		{api.ID{At: 1, N: 5}, api.ID{At: 1, N: 6}}, {api.ID{At: 1, N: 9}, api.ID{At: 1, N: 10}}, {api.ID{At: 1, N: leastInt}, api.ID{At: 1, N: mostInt}}, {api.ID{At: 1, N: -1}, api.ID{At: 1, N: 0}},
	} {
		for _, now := range []int{-1, 0, 5, 9, 9999} {
			ahead(t, of(x.a.At, x.a.N, 0, 2, 5), of(x.b.At, x.b.N, 0, 2, 5), nil, now)
			ahead(t, of(x.a.At, x.a.N, 0, -2, 5), of(x.b.At, x.b.N, 7, 0, 5), all()[:7], now)
		}
	}
}

// P11.4: those that differ in nothing that counts stand by their places.
func TestOrderByPlace(t *testing.T) {
	for _, many := range []int{2, 3, 11, 12, 13, 50, api.MaxCopies, 1000} {
		var l []api.Copy
		var want []int
		for n := range many {
			c := of(1, 2, n%16, 3, 4)
			c.St, c.Token, c.Low, c.At, c.How, c.End = n%3, many-n, -n, many-n, n, -n
			c.Job.Wall, c.Job.Run, c.Job.After, c.Job.Need, c.Job.Pact = many-n, -n, n, complex(float64(many-n), 1), n%2 == 1
			l = append(l, c)
			want = append(want, n)
		}
		stand(t, l, nil, 9, want...)
		stand(t, l, nil, -1, want...)
	}
}

// P11.4: each of the words counts ahead of those behind it.
func TestOrderOfMany(t *testing.T) {
	l := []api.Copy{of(1, 1, 0, 0, 50), of(0, 2, 0, 0, 40), of(0, 1, 0, 1, 60), of(0, 1, 3, 1, 60), of(0, 3, 0, 0, 40), of(0, 2, 0, 0, 40), of(2, 0, 0, 0, 40), of(1, 7, 0, 0, 70)}
	stand(t, l, nil, 60, 2, 3, 1, 5, 4, 6, 0, 7)
	stand(t, l, []api.Use{use(3, most, 0)}, 60, 2, 1, 5, 4, 6, 0, 3, 7)
	stand(t, l, []api.Use{use(3, 64, 60)}, 60, 2, 3, 1, 5, 4, 6, 0, 7)
	stand(t, l, []api.Use{use(0, most, 60)}, 60, 3, 2, 1, 5, 4, 6, 0, 7)
	stand(t, l, []api.Use{use(3, most, 0), use(3, most, 0)}, 60, 2, 3, 1, 5, 4, 6, 0, 7)
	stand(t, l, []api.Use{use(3, most, 0)}, -1, 2, 3, 1, 5, 4, 6, 0, 7)
	stand(t, l, []api.Use{use(3, most, 0)}, 20, 2, 1, 5, 4, 6, 0, 3, 7)
}

// P11.4: all rows of a few copies that differ in one word or in none.
func TestOrderOfAllShortRows(t *testing.T) {
	kinds := []api.Copy{of(1, 1, 0, 1, 5), of(1, 1, 0, 0, 5), of(1, 1, 3, 1, 5), of(1, 1, 0, 1, 6), of(0, 1, 0, 1, 5), of(1, 0, 0, 1, 5)}
	uses := []api.Use{use(3, 64, 0)}
	var walk func(l []api.Copy)
	walk = func(l []api.Copy) {
		for _, now := range []int{5, 9, 4101, 4102, -1} {
			stand(t, l, uses, now, ordered(l, uses, now)...)
		}
		if len(l) == 4 {
			return
		}
		for _, c := range kinds {
			walk(append(slices.Clone(l), c))
		}
	}
	walk(nil)
}

// P11.4: each place stands in it once, in whatever order copies and uses are.
func TestOrderHasEachPlaceOnce(t *testing.T) {
	for many := range 60 {
		roll := dice(uint64(many))
		copies := someCopies(roll, many)
		for _, uses := range [][]api.Use{nil, all(), someUses(roll), wrongUses()[many]} {
			for _, now := range []int{-1, 0, 3000, forever, forever + 1} {
				l := rank.Order(copies, uses, now)
				slices.Sort(l)
				for i, at := range l {
					if at != i {
						t.Fatalf("Order of %d at %d: place %d of them is %d", many, now, i, at)
					}
				}
				if len(l) != many {
					t.Fatalf("Order of %d at %d: %d places", many, now, len(l))
				}
			}
		}
	}
}

// P11.4: how copies are handed in makes no difference to who stands where, if their IDs differ.
func TestOrderOfRowsTurnedRound(t *testing.T) {
	roll := dice(7)
	copies, uses := someCopies(roll, 100), []api.Use{use(1, 6400, 0), use(2, most, 0)}
	for i := range copies {
		copies[i].Job.ID.N = 1000 * copies[i].Job.ID.N
		copies[i].Job.ID.N += i
	}
	want := rank.Order(copies, uses, 3000)
	for turn := range copies {
		turned := slices.Concat(copies[turn:], copies[:turn])
		for i, at := range rank.Order(turned, uses, 3000) {
			if was := (at + turn) % len(copies); was != want[i] {
				t.Fatalf("turned by %d: %d comes as %d, want %d", turn, was, i, want[i])
			}
		}
	}
}
