package resv_test

import (
	"slices"
	"testing"

	"hanse/api"
	"hanse/resv"
)

// confirms tells a fault, unless Confirm answers just this list.
func confirms(t *testing.T, l []api.Resv, id api.ID, n int, want ...api.Resv) {
	t.Helper()
	got, e := resv.Confirm(l, id, n)
	if e != api.OK {
		t.Errorf("Confirm(%v, %v, %d): %d", l, id, n, e)
	}
	is(t, "Confirm", got, want...)
}

// cancels tells a fault, unless Cancel answers just this list.
func cancels(t *testing.T, l []api.Resv, id api.ID, n int, want ...api.Resv) {
	t.Helper()
	got, e := resv.Cancel(l, id, n)
	if e != api.OK {
		t.Errorf("Cancel(%v, %v, %d): %d", l, id, n, e)
	}
	is(t, "Cancel", got, want...)
}

// wants tells a fault, unless Confirm and Cancel answer these errors, and no lists beside them.
func wants(t *testing.T, l []api.Resv, id api.ID, n int, confirm, cancel api.Errno) {
	t.Helper()
	if got, e := resv.Confirm(l, id, n); e != confirm || e != api.OK && len(got) > 0 {
		t.Errorf("Confirm(%v, %v, %d): %v, %d, want %d", l, id, n, got, e, confirm)
	}
	if got, e := resv.Cancel(l, id, n); e != cancel || e != api.OK && len(got) > 0 {
		t.Errorf("Cancel(%v, %v, %d): %v, %d, want %d", l, id, n, got, e, cancel)
	}
}

// three answers reservations of three keys, none of them sure.
func three() []api.Resv {
	return []api.Resv{
		{ID: api.ID{}, N: 4, Busy: busy(3, 9, 1), Until: 20},
		{ID: api.ID{At: 1, N: 2}, N: 3, Busy: busy(4, 8, 2+1i), Until: 21},
		{ID: api.ID{At: 2, N: 1}, N: 3, Busy: busy(5, 7, 1i), Until: 22},
	}
}

// sure answers r for sure.
func sure(r api.Resv) api.Resv {
	return api.Resv{ID: r.ID, N: r.N, Busy: r.Busy, Sure: true}
}

// P9.2: the first, one between, the last, the only one; Sure and Until become others, and nothing else.
func TestConfirm(t *testing.T) {
	l := three()
	for i, r := range l {
		want := slices.Clone(l)
		want[i] = sure(r)
		confirms(t, l, r.ID, r.N, want...)
		confirms(t, []api.Resv{r}, r.ID, r.N, sure(r))
	}
	for _, until := range []int{leastInt, -1, 0, 1, forever, mostInt} {
		r := api.Resv{ID: api.ID{At: -1, N: mostInt}, N: leastInt, Busy: busy(9, 3, -0.5), Until: until}
		confirms(t, []api.Resv{l[0], r}, r.ID, r.N, l[0], sure(r))
	}
}

// P9.2: the first, one between, the last, the only one.
func TestCancel(t *testing.T) {
	l := three()
	for i, r := range l {
		cancels(t, l, r.ID, r.N, slices.Concat(l[:i], l[i+1:])...)
		cancels(t, []api.Resv{r}, r.ID, r.N)
		cancels(t, []api.Resv{sure(r)}, r.ID, r.N)
	}
	odd := api.Resv{ID: api.ID{At: -1, N: mostInt}, N: leastInt, Busy: busy(9, 3, -0.5), Until: 4}
	cancels(t, []api.Resv{odd, l[2], l[0]}, l[0].ID, l[0].N, odd, l[2])
	cancels(t, []api.Resv{l[2], odd, l[0]}, odd.ID, odd.N, l[2], l[0])
}

// P9.2: of some that have the ID and N the first alone is meant.
func TestTheFirstOfSome(t *testing.T) {
	a, b := key(1, 2, 3, 30), key(1, 2, 3, 40)
	x, y := key(1, 2, 4, 50), key(0, 2, 3, 60)
	confirms(t, []api.Resv{a, b}, a.ID, 3, sure(a), b)
	confirms(t, []api.Resv{x, b, y, a}, a.ID, 3, x, sure(b), y, a)
	confirms(t, []api.Resv{b, sure(a), a}, a.ID, 3, sure(b), sure(a), a)
	cancels(t, []api.Resv{a, b}, a.ID, 3, b)
	cancels(t, []api.Resv{b, a, a}, a.ID, 3, a, a)
	cancels(t, []api.Resv{x, b, y, a}, a.ID, 3, x, y, a)
	cancels(t, []api.Resv{sure(a), b}, a.ID, 3, b)
	cancels(t, []api.Resv{b, sure(a)}, a.ID, 3, sure(a))
}

// P9.2: none has that ID and N, though others have a part of them.
func TestErrNone(t *testing.T) {
	wants(t, nil, api.ID{}, 0, api.ErrNone, api.ErrNone)
	wants(t, []api.Resv{}, api.ID{At: 1, N: 2}, 3, api.ErrNone, api.ErrNone)
	l := append(three(), sure(key(5, 5, 5, 0)))
	for _, x := range []api.Resv{key(0, 0, 0, 0), key(0, 0, 3, 0), key(1, 2, 4, 0), key(1, 2, 0, 0), key(2, 2, 3, 0), key(1, 1, 3, 0), key(0, 2, 3, 0), key(1, 0, 3, 0), key(2, 1, -3, 0), key(5, 5, 4, 0), key(5, 4, 5, 0), key(4, 5, 5, 0), key(leastInt, mostInt, leastInt, 0)} {
		wants(t, l, x.ID, x.N, api.ErrNone, api.ErrNone)
	}
}

// P9.2: the first that has them is sure, whatever the others are; Cancel takes it all the same.
func TestErrLife(t *testing.T) {
	a := key(1, 2, 3, 30)
	until := a
	until.Sure = true
	for _, l := range [][]api.Resv{{sure(a)}, {until}, {sure(a), a}, {until, a}, {sure(a), until}, {key(0, 0, 0, 0), sure(a), a, a}, {key(9, 9, 9, 0), until, sure(key(0, 0, 0, 0))}} {
		wants(t, l, a.ID, 3, api.ErrLife, api.OK)
	}
	wants(t, []api.Resv{sure(a), key(1, 2, 4, 0)}, a.ID, 4, api.OK, api.OK)
}

// P9.2: who confirms twice is told so.
func TestConfirmTwice(t *testing.T) {
	l, e := resv.Confirm(three(), api.ID{At: 1, N: 2}, 3)
	if e != api.OK {
		t.Fatal(e)
	}
	wants(t, l, api.ID{At: 1, N: 2}, 3, api.ErrLife, api.OK)
	wants(t, l, api.ID{}, 4, api.OK, api.OK)
}

// P9.3: the load of a list is the Busy of each, in its order.
func TestLoad(t *testing.T) {
	if b := resv.Load(nil); len(b) != 0 {
		t.Errorf("Load of none: %v", b)
	}
	if b := resv.Load([]api.Resv{}); len(b) != 0 {
		t.Errorf("Load of none: %v", b)
	}
	l := three()
	l = append(l, sure(l[1]), l[0], api.Resv{}, api.Resv{N: 9, Busy: busy(9, 3, -0.5), Until: 4}, api.Resv{Busy: busy(leastInt, mostInt, great+1)})
	want := []api.Busy{busy(3, 9, 1), busy(4, 8, 2+1i), busy(5, 7, 1i), busy(4, 8, 2+1i), busy(3, 9, 1), {}, busy(9, 3, -0.5), busy(leastInt, mostInt, great+1)}
	for n := range len(l) + 1 {
		if b := resv.Load(l[:n]); !slices.Equal(b, want[:n]) {
			t.Errorf("Load: %v, want %v", b, want[:n])
		}
	}
	for _, many := range []int{api.MaxResvs, api.MaxResvs + 1, 1000} {
		b := resv.Load(clients(many))
		if len(b) != many || b[many-1] != busy(many-1, many, 1) {
			t.Errorf("Load of %d: %d", many, len(b))
		}
	}
}
