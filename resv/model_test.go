package resv_test

import (
	"slices"
	"testing"

	"hanse/api"
	"hanse/profile"
	"hanse/resv"
)

// ticks is how many ticks the model looks at; what it is told ends there, or ahead.
const ticks = 24

// enough tells whether nodes and licences are enough for all of it, tick by tick.
func enough(nodes, lics int, busy []api.Busy, l []api.Resv) bool {
	all := slices.Clone(busy)
	for _, r := range l {
		all = append(all, r.Busy)
	}
	for at := range ticks {
		n, i := nodes, lics
		for _, b := range all {
			if b.From <= at && at < b.To {
				n, i = n-int(real(b.Need)), i-int(imag(b.Need))
			}
		}
		if n < 0 || i < 0 {
			return false
		}
	}
	return true
}

// same tells whether r has that ID and N.
func same(r api.Resv, id api.ID, n int) bool {
	return r.ID.At == id.At && r.ID.N == id.N && r.N == n
}

// model is a cluster whose reservations are held as the chapter tells it.
type model struct {
	nodes, lics int
	busy        []api.Busy
	l           []api.Resv
}

func (m *model) cap() complex128 {
	return complex(float64(m.nodes), float64(m.lics))
}

// add is what Add does, for spans that are right, needs that are amounts, and cap and busy that are right.
func (m *model) add(r api.Resv) api.Errno {
	if len(m.l) >= api.MaxResvs {
		return api.ErrFull
	}
	for _, x := range m.l {
		if same(x, r.ID, r.N) {
			return api.ErrTwice
		}
	}
	if !enough(m.nodes, m.lics, m.busy, append(slices.Clone(m.l), r)) {
		return api.ErrRoom
	}
	m.l = placed(m.l, r)
	return api.OK
}

// key is what Confirm and Cancel do: what becomes of the first that has the ID and N.
func (m *model) key(id api.ID, n int, cancel bool) api.Errno {
	for i, x := range m.l {
		if !same(x, id, n) {
			continue
		}
		if cancel {
			m.l = append(slices.Clone(m.l[:i]), m.l[i+1:]...)
			return api.OK
		}
		if x.Sure {
			return api.ErrLife
		}
		m.l = slices.Clone(m.l)
		m.l[i] = sure(x)
		return api.OK
	}
	return api.ErrNone
}

// expire is what Expire does, and answers what is gone.
func (m *model) expire(now int) []api.Resv {
	var left, gone []api.Resv
	for _, r := range m.l {
		held := r.Sure || r.Until > now
		if held && r.Busy.To > now {
			left = append(left, r)
		} else {
			gone = append(gone, r)
		}
	}
	m.l = left
	return gone
}

// act is a call: a kind, a reservation whose ID and N are meant, a tick.
type act struct {
	kind int
	r    api.Resv
	now  int
}

// Kinds of acts.
const (
	toAdd = iota
	toConfirm
	toCancel
	toExpire
)

// both does the act to a list and to its model, and tells a fault, unless they answer alike; it answers the list that is then.
func both(t *testing.T, l []api.Resv, m *model, a act) []api.Resv {
	t.Helper()
	var got []api.Resv
	var e, want api.Errno
	switch a.kind {
	case toAdd:
		got, e = resv.Add(m.cap(), m.busy, l, a.r)
		want = m.add(a.r)
	case toConfirm:
		got, e = resv.Confirm(l, a.r.ID, a.r.N)
		want = m.key(a.r.ID, a.r.N, false)
	case toCancel:
		got, e = resv.Cancel(l, a.r.ID, a.r.N)
		want = m.key(a.r.ID, a.r.N, true)
	case toExpire:
		var gone []api.Resv
		got, gone = resv.Expire(l, a.now)
		if wanted := m.expire(a.now); !slices.Equal(gone, wanted) {
			t.Fatalf("%v of %v: gone are %v, want %v", a, l, gone, wanted)
		}
	}
	if e != want || e != api.OK && len(got) > 0 {
		t.Fatalf("%v of %v: %d and %v, want %d", a, l, e, got, want)
	}
	if e != api.OK {
		got = l
	}
	if !slices.Equal(got, m.l) {
		t.Fatalf("%v of %v: %v, want %v", a, l, got, m.l)
	}
	return got
}

// P9.1 to P9.4: all scripts of five acts, each of them held against the model.
func TestAllShortScripts(t *testing.T) {
	r := func(at, n, round, from, to int, need complex128, until int) api.Resv {
		return api.Resv{ID: api.ID{At: at, N: n}, N: round, Busy: busy(from, to, need), Until: until}
	}
	a, b, c, d := r(0, 0, 2, 0, 5, 2, 3), r(1, 2, 1, 4, 6, 1+1i, 5), r(1, 1, 9, 0, 9, 1, 9), r(0, 0, 2, 6, 9, 1i, 7)
	acts := []act{{kind: toAdd, r: a}, {kind: toAdd, r: b}, {kind: toAdd, r: c}, {kind: toAdd, r: d}, {kind: toConfirm, r: a}, {kind: toConfirm, r: b}, {kind: toCancel, r: a}, {kind: toCancel, r: c}, {kind: toExpire, now: 3}, {kind: toExpire, now: 5}}
	var walk func(l []api.Resv, m model, left int)
	walk = func(l []api.Resv, m model, left int) {
		if left == 0 {
			return
		}
		for _, a := range acts {
			n := m
			walk(both(t, l, &n, a), n, left-1)
		}
	}
	walk(nil, model{nodes: 3, lics: 1}, 5)
}

// chance answers numbers below a bound, that have no rule to be seen.
func chance(seed int) func(below int) int {
	x := uint32(seed)
	return func(below int) int {
		x = x*1664525 + 1013904223
		return int(x>>8) % below
	}
}

// some answers a span of the model's ticks with a need.
func some(next func(int) int, nodes, lics int) api.Busy {
	from := next(ticks)
	return busy(from, from+1+next(ticks-from), complex(float64(next(nodes+1)), float64(next(lics+1))))
}

// someResv answers a reservation of one of few keys.
func someResv(next func(int) int, keys int) api.Resv {
	r := api.Resv{ID: api.ID{At: next(3), N: next(3)}, N: next(keys), Busy: some(next, 2, 1), Until: next(40), Sure: next(4) == 0}
	if next(2) == 0 {
		r.ID = api.ID{}
	}
	return r
}

// started answers a model with busy ones that fit.
func started(next func(int) int) *model {
	m := &model{nodes: 1 + next(12), lics: next(5)}
	for range next(5) {
		b := some(next, 3, 2)
		if enough(m.nodes, m.lics, append(slices.Clone(m.busy), b), nil) {
			m.busy = append(m.busy, b)
		}
	}
	return m
}

// P9.1 to P9.4: scripts of many acts, each of them held against the model.
func TestLongScripts(t *testing.T) {
	for seed := range 300 {
		next := chance(seed)
		m := started(next)
		var l []api.Resv
		for range 150 {
			a := act{kind: toAdd, r: someResv(next, 1+next(6)), now: next(ticks)}
			if next(3) == 0 {
				a.kind = next(3)
			}
			if next(25) == 0 {
				a.kind = toExpire
			}
			l = both(t, l, m, a)
		}
	}
}

// P9.1: lists that are in no order, and hold keys twice.
func TestScriptsOfOddLists(t *testing.T) {
	for seed := range 300 {
		next := chance(seed)
		m := started(next)
		for range next(10) {
			r := someResv(next, 3)
			if enough(m.nodes, m.lics, m.busy, append(slices.Clone(m.l), r)) {
				m.l = append(m.l, r)
			}
		}
		l := slices.Clone(m.l)
		for range 40 {
			l = both(t, l, m, act{kind: next(3), r: someResv(next, 3)})
		}
	}
}

// free answers what is free beside busy and l.
func free(t *testing.T, m *model, l []api.Resv) []api.Step {
	t.Helper()
	p, e := profile.New(m.cap(), append(slices.Clone(m.busy), resv.Load(l)...)...)
	if e != api.OK {
		t.Fatalf("%v do not fit beside %v: %d", l, m.busy, e)
	}
	return p.Steps()
}

// P9.4: all that Add alone has made fits together, in order, at each tick.
func TestWhatWasAddedFits(t *testing.T) {
	for seed := range 200 {
		next := chance(seed)
		m := started(next)
		var l []api.Resv
		for range 100 {
			more, e := resv.Add(m.cap(), m.busy, l, someResv(next, 9))
			if e != api.OK {
				continue
			}
			l = more
			free(t, m, l)
			if !enough(m.nodes, m.lics, m.busy, l) {
				t.Fatalf("seed %d: %v do not fit", seed, l)
			}
		}
		if !slices.IsSortedFunc(l, func(a, b api.Resv) int {
			if behind(a, b) {
				return 1
			}
			return -1
		}) {
			t.Errorf("seed %d: %v stand in no order", seed, l)
		}
	}
}

// P9.4: who adds and cancels finds the list, and what is free, as it was.
func TestCancelUndoesAdd(t *testing.T) {
	for seed := range 300 {
		next := chance(seed)
		m := started(next)
		var lists [][]api.Resv
		var added, l []api.Resv
		for range 60 {
			r := someResv(next, 9)
			more, e := resv.Add(m.cap(), m.busy, l, r)
			if e != api.OK {
				continue
			}
			undoes(t, m, more, r, l)
			lists, added, l = append(lists, l), append(added, r), more
		}
		for i := len(added) - 1; i >= 0; i-- {
			undoes(t, m, l, added[i], lists[i])
			l = lists[i]
		}
	}
}

// undoes tells a fault, unless cancelling r in l leaves what there was, and adding it again makes l.
func undoes(t *testing.T, m *model, l []api.Resv, r api.Resv, was []api.Resv) {
	t.Helper()
	less, e := resv.Cancel(l, r.ID, r.N)
	if e != api.OK || !slices.Equal(less, was) || !slices.Equal(free(t, m, less), free(t, m, was)) {
		t.Fatalf("Cancel of %v in %v: %v, %d, want %v", r, l, less, e, was)
	}
	is(t, "Add again", adds(t, m.cap(), m.busy, less, r), l...)
}

// P9.4: whichever is cancelled and added again, the list is as it was.
func TestCancelInAnyOrder(t *testing.T) {
	for seed := range 300 {
		next := chance(seed)
		m := started(next)
		var l []api.Resv
		for range 60 {
			if more, e := resv.Add(m.cap(), m.busy, l, someResv(next, 9)); e == api.OK {
				l = more
			}
		}
		for len(l) > 0 {
			at := next(len(l))
			undoes(t, m, l, l[at], slices.Concat(l[:at], l[at+1:]))
			l = slices.Concat(l[:at], l[at+1:])
		}
	}
}

// P9.4: a full cluster is free again where one was cancelled, and nowhere else.
func TestCancelMakesRoom(t *testing.T) {
	l := clients(10)
	for n := range 10 {
		less, e := resv.Cancel(l, api.ID{}, n)
		if e != api.OK {
			t.Fatal(e)
		}
		for at := range 10 {
			r := of(20, at, at+1, 1)
			refuses(t, api.ErrRoom, 1, nil, l, r)
			if at != n {
				refuses(t, api.ErrRoom, 1, nil, less, r)
				continue
			}
			adds(t, 1, nil, less, r)
		}
	}
}
