package resv_test

import (
	"reflect"
	"slices"
	"testing"

	"hanse/api"
	"hanse/resv"
)

// room answers where a list's memory begins and ends, spare room too.
func room[T any](l []T) (from, to uintptr) {
	v := reflect.ValueOf(l)
	return v.Pointer(), v.Pointer() + uintptr(cap(l))*v.Type().Elem().Size()
}

// apart tells a fault, if two lists share memory, spare room too.
func apart[S, T any](t *testing.T, what string, one []S, other []T) {
	t.Helper()
	a, b := room(one)
	c, d := room(other)
	if a < b && c < d && a < d && c < b {
		t.Errorf("%s share memory", what)
	}
}

// spoil overwrites a list and its spare room.
func spoil[T any](l []T, with T) {
	l = l[:cap(l)]
	for i := range l {
		l[i] = with
	}
}

// spared answers a list of so many with spare room behind it that holds reservations, too.
func spared(many int) []api.Resv {
	l := []api.Resv{key(0, 0, 2, 30), sure(key(1, 1, 1, 0)), key(2, 2, 2, 40), key(3, 3, 3, 50), sure(key(4, 4, 4, 0)), key(5, 5, 5, 9)}
	return l[:many]
}

// calls holds each call that answers a list of reservations: from the list, with the busy ones.
func calls() map[string]func(b []api.Busy, l []api.Resv) []api.Resv {
	add := func(r api.Resv) func(b []api.Busy, l []api.Resv) []api.Resv {
		return func(b []api.Busy, l []api.Resv) []api.Resv {
			more, _ := resv.Add(3, b, l, r)
			return more
		}
	}
	confirm := func(n int) func(b []api.Busy, l []api.Resv) []api.Resv {
		return func(_ []api.Busy, l []api.Resv) []api.Resv {
			more, _ := resv.Confirm(l, api.ID{At: n, N: n}, n)
			return more
		}
	}
	cancel := func(at, n int) func(b []api.Busy, l []api.Resv) []api.Resv {
		return func(_ []api.Busy, l []api.Resv) []api.Resv {
			less, _ := resv.Cancel(l, api.ID{At: at, N: at}, n)
			return less
		}
	}
	expire := func(now, which int) func(b []api.Busy, l []api.Resv) []api.Resv {
		return func(_ []api.Busy, l []api.Resv) []api.Resv {
			left, gone := resv.Expire(l, now)
			return [2][]api.Resv{left, gone}[which]
		}
	}
	return map[string]func(b []api.Busy, l []api.Resv) []api.Resv{
		"Add ahead of all":  add(key(-1, 0, 0, 1)),
		"Add between":       add(key(1, 5, 0, 1)),
		"Add behind all":    add(key(9, 0, 0, 1)),
		"Add of no span":    add(of(9, 3, 3, 1)),
		"Add of no amount":  add(of(9, 3, 4, 0.5)),
		"Add twice":         add(key(0, 0, 2, 1)),
		"Add without room":  add(of(9, 1, 2, 4)),
		"Confirm the third": confirm(2),
		"Confirm the last":  confirm(5),
		"Confirm a sure":    confirm(1),
		"Confirm none":      confirm(7),
		"Cancel the first":  cancel(0, 2),
		"Cancel between":    cancel(2, 2),
		"Cancel the last":   cancel(5, 5),
		"Cancel none":       cancel(7, 7),
		"what is all left":  expire(0, 0),
		"nothing gone":      expire(0, 1),
		"nothing left":      expire(50, 0),
		"what is all gone":  expire(50, 1),
		"what is left":      expire(1, 0),
		"what is gone":      expire(1, 1),
	}
}

// given answers busy ones with spare room, all of it, and how much of it is handed in.
func given() ([]api.Busy, int) {
	return []api.Busy{busy(5, 9, 1), busy(7, 12, 1), busy(0, forever, 3), busy(6, 6, 9)}, 2
}

// R2: what is handed in stays as it was, its spare room too, whether it is refused or not.
func TestCallsLeaveWhatIsHandedIn(t *testing.T) {
	for name, call := range calls() {
		for many := range 7 {
			b, some := given()
			l := spared(many)
			bs, ls := slices.Clone(b), slices.Clone(l[:cap(l)])
			got := call(b[:some], l)
			if !slices.Equal(b, bs) || !slices.Equal(l[:cap(l)], ls) {
				t.Errorf("%s of %d changed what was handed in", name, many)
			}
			apart(t, name+": the answer and its list", got, l)
			apart(t, name+": the answer and busy", got, b)
			spoil(got, api.Resv{N: 99})
			if !slices.Equal(b, bs) || !slices.Equal(l[:cap(l)], ls) {
				t.Errorf("%s of %d: the answer is what was handed in", name, many)
			}
		}
	}
}

// R2, R3: what a call answers is what the like call answers, and nothing that is done in between touches it.
func TestAnswersStay(t *testing.T) {
	for name, call := range calls() {
		for many := range 7 {
			b, some := given()
			l := spared(many)
			one := call(b[:some], l)
			was, spare := slices.Clone(one), slices.Clone(one[:cap(one)])
			other := call(b[:some], l)
			apart(t, name+": two answers", one, other)
			spoil(other, api.Resv{N: 99})
			for _, next := range calls() {
				apart(t, name+": an answer and a later one", one, next(b[:some], one))
			}
			spoil(l, api.Resv{N: 98})
			spoil(b, busy(1, 1, 9))
			if !slices.Equal(one, was) || !slices.Equal(one[:cap(one)], spare) {
				t.Errorf("%s of %d: the answer did not stay", name, many)
			}
			c, some := given()
			if again := call(c[:some], spared(many)); !slices.Equal(again, was) {
				t.Errorf("%s of %d answers %v, then %v", name, many, was, again)
			}
		}
	}
}

// R2: what is left and what is gone share nothing, spare room too.
func TestExpireListsApart(t *testing.T) {
	for many := range 7 {
		for _, now := range []int{0, 1, 2, 30, 45, 60} {
			left, gone := resv.Expire(spared(many), now)
			apart(t, "left and gone", left, gone)
			want := slices.Clone(gone)
			spoil(left, api.Resv{N: 99})
			_ = append(left, clients(9)...)
			if !slices.Equal(gone, want) {
				t.Errorf("Expire of %d at %d: what is left changed what is gone", many, now)
			}
		}
	}
}

// R2: a load is new memory, and no part of it is the list's.
func TestLoadIsNewMemory(t *testing.T) {
	for many := range 7 {
		l := spared(many)
		was := slices.Clone(l[:cap(l)])
		one, other := resv.Load(l), resv.Load(l)
		apart(t, "two loads", one, other)
		apart(t, "a load and its list", one, l)
		want := slices.Clone(other)
		spoil(one, busy(8, 9, 9))
		_ = append(one, busy(8, 9, 9))
		if !slices.Equal(other, want) || !slices.Equal(l[:cap(l)], was) {
			t.Errorf("one load of %d changed another one, or the list", many)
		}
		spoil(l, api.Resv{N: 99})
		if !slices.Equal(other, want) {
			t.Errorf("a load of %d goes by its list", many)
		}
	}
}

// R6: what lies behind a list's length is not looked at.
func TestSpareRoomIsNotRead(t *testing.T) {
	l := []api.Resv{key(1, 1, 1, 50), key(2, 2, 2, 50), of(9, 0, forever, great), {Busy: busy(5, 5, -1)}}
	b := []api.Busy{busy(0, 1, 1), busy(0, forever, 9), busy(6, 6, 1)}
	r := key(2, 2, 2, 9)
	is(t, "Add", adds(t, 1, b[:1], l[:1], r), l[0], r)
	is(t, "Add", adds(t, 1, b[:0], l[:0], r), r)
	full := make([]api.Resv, 1, 2*api.MaxResvs)
	full[0] = l[0]
	is(t, "Add", adds(t, 1, b[:1], full, r), l[0], r)
	wants(t, l[:1], r.ID, r.N, api.ErrNone, api.ErrNone)
	expires(t, l[:1], 60, nil, l[:1])
	if load := resv.Load(l[:1]); len(load) != 1 {
		t.Errorf("Load: %v", load)
	}
}
