package resv_test

import (
	"math"
	"slices"
	"testing"

	"hanse/api"
	"hanse/resv"
)

const (
	great    = api.MaxAmount
	forever  = api.Forever
	leastInt = -1 << 63
	mostInt  = 1<<63 - 1
)

// zero is -0, which no constant is.
func zero() float64 {
	return math.Copysign(0, -1)
}

// noAmounts holds what is wrong in either part, beside a part that is right and one that is not.
func noAmounts() []complex128 {
	var l []complex128
	for _, no := range []float64{-1, -0.5, 0.5, 1.5, great - 0.5, great + 0.5, great + 1, -great, 1 << 40, 1e300, -1e300, math.SmallestNonzeroFloat64, math.NaN(), math.Inf(1), math.Inf(-1)} {
		for _, part := range []float64{0, 1, great, zero(), no} {
			l = append(l, complex(no, part), complex(part, no))
		}
	}
	return l
}

// noSpans holds spans that are not right.
func noSpans() []api.Span {
	return []api.Span{
		{From: 0, To: 0}, {From: 5, To: 5}, {From: forever, To: forever}, {From: -3, To: -3}, {From: forever - 1, To: forever - 1},
		{From: 1, To: 0}, {From: 6, To: 5}, {From: forever, To: 0}, {From: forever, To: forever - 1}, {From: mostInt, To: leastInt},
		{From: -1, To: 5}, {From: -1, To: 0}, {From: leastInt, To: 5}, {From: leastInt, To: mostInt}, {From: -1, To: forever + 1}, {From: -forever, To: forever},
		{From: 0, To: forever + 1}, {From: 5, To: mostInt}, {From: forever, To: forever + 1}, {From: forever - 1, To: forever + 1}, {From: forever + 1, To: forever + 2},
		{From: 5, To: -1}, {From: 0, To: leastInt}, {From: mostInt, To: mostInt}, {From: leastInt, To: leastInt}, {From: leastInt, To: leastInt + 1},
	}
}

func busy(from, to int, need complex128) api.Busy {
	return api.Busy{From: from, To: to, Need: need}
}

// of answers a client's reservation that is not sure, until 50.
func of(n, from, to int, need complex128) api.Resv {
	return api.Resv{N: n, Busy: busy(from, to, need), Until: 50}
}

// key answers a reservation of that ID and N, which takes nothing from tick 1 to 2; its Until tells it from others.
func key(at, n, round, until int) api.Resv {
	return api.Resv{ID: api.ID{At: at, N: n}, N: round, Busy: busy(1, 2, 0), Until: until}
}

// clients answers as many reservations of clients, in order, of one node for a tick each.
func clients(many int) []api.Resv {
	var l []api.Resv
	for n := range many {
		l = append(l, of(n, n, n+1, 1))
	}
	return l
}

// is tells a fault, unless the list is just this one.
func is(t *testing.T, what string, got []api.Resv, want ...api.Resv) {
	t.Helper()
	if !slices.Equal(got, want) {
		t.Errorf("%s: %v, want %v", what, got, want)
	}
}

// adds answers the list that Add answers, which must be OK.
func adds(t *testing.T, cap complex128, b []api.Busy, l []api.Resv, r api.Resv) []api.Resv {
	t.Helper()
	more, e := resv.Add(cap, b, l, r)
	if e != api.OK {
		t.Fatalf("Add(%v, %v, %d long, %v): %d", cap, b, len(l), r, e)
	}
	return more
}

// refuses tells a fault, unless Add answers that error, and no list.
func refuses(t *testing.T, want api.Errno, cap complex128, b []api.Busy, l []api.Resv, r api.Resv) {
	t.Helper()
	if more, e := resv.Add(cap, b, l, r); e != want || len(more) > 0 {
		t.Errorf("Add(%v, %v, %d long, %v): %d and %v, want %d", cap, b, len(l), r, e, more, want)
	}
}

// P9.1: the examples of the chapter.
func TestExamples(t *testing.T) {
	a := of(1, 0, 5, 2)
	refuses(t, api.ErrRoom, 2, nil, []api.Resv{a}, of(2, 3, 4, 1))
	b := of(2, 5, 6, 2)
	is(t, "Add", adds(t, 2, nil, []api.Resv{a}, b), a, b)
}

// P9.1: what is added stands as it was given, and so does the list beside it.
func TestAddKeepsAllFields(t *testing.T) {
	l := []api.Resv{{ID: api.ID{At: 2, N: 3}, N: 4, Busy: busy(5, 6, 1+1i), Sure: true, Until: 7}, {ID: api.ID{At: 3, N: -3}, N: -4, Busy: busy(0, forever, 0), Until: -7}}
	for _, r := range []api.Resv{
		{ID: api.ID{At: 4, N: 8}, N: 9, Busy: busy(0, forever, 2+1i), Sure: true, Until: 10},
		{ID: api.ID{At: 4, N: 8}, N: 9, Busy: busy(forever-1, forever, 3+2i), Until: 10},
		{ID: api.ID{At: mostInt, N: mostInt}, N: mostInt, Busy: busy(0, 1, 3), Sure: true, Until: mostInt},
		{ID: api.ID{At: 3, N: leastInt + mostInt}, N: leastInt, Busy: busy(4, 5, 2i), Until: leastInt},
		{ID: api.ID{At: 3, N: -3}, N: 0},
	} {
		r.Busy.To = max(r.Busy.To, 1)
		is(t, "Add", adds(t, 3+2i, nil, l, r), l[0], l[1], r)
	}
}

// P9.1: a list of none, of one, and of as many as may be.
func TestAddUpToMaxResvs(t *testing.T) {
	is(t, "Add to none", adds(t, 1, nil, nil, of(1, 0, 1, 1)), of(1, 0, 1, 1))
	is(t, "Add to an empty list", adds(t, 1, []api.Busy{}, []api.Resv{}, of(1, 0, 1, 1)), of(1, 0, 1, 1))
	var l []api.Resv
	for n := range api.MaxResvs {
		l = adds(t, 1, nil, l, of(n, n, n+1, 1))
		is(t, "Add", l, clients(n+1)...)
	}
	refuses(t, api.ErrFull, 1, nil, l, of(api.MaxResvs, 500, 501, 1))
}

// P9.1: ErrFull from MaxResvs on, whatever stands in the list.
func TestAddToAFullList(t *testing.T) {
	for _, many := range []int{api.MaxResvs, api.MaxResvs + 1, 2 * api.MaxResvs, 1000} {
		l := clients(many)
		refuses(t, api.ErrFull, great, nil, l, of(many, 0, 1, 1))
		refuses(t, api.ErrFull, great, nil, l, of(0, 5, 5, -1))
		refuses(t, api.ErrFull, great, nil, make([]api.Resv, many), of(1, 0, 1, 1))
	}
	last := adds(t, 1, nil, clients(api.MaxResvs-1), of(900, 900, 901, 1))
	if len(last) != api.MaxResvs {
		t.Errorf("%d reservations", len(last))
	}
}

// P9.1: spans that are no spans of ticks.
func TestAddErrSpan(t *testing.T) {
	for _, s := range noSpans() {
		for _, need := range []complex128{0, 1, 9, -1} {
			refuses(t, api.ErrSpan, 3, nil, nil, of(1, s.From, s.To, need))
			refuses(t, api.ErrSpan, 3, nil, clients(3), of(7, s.From, s.To, need))
		}
	}
}

// P9.1: the spans that are just right.
func TestAddRightSpans(t *testing.T) {
	for _, s := range []api.Span{{From: 0, To: 1}, {From: 0, To: forever}, {From: forever - 1, To: forever}, {From: 5, To: 6}, {From: 1, To: forever - 1}} {
		r := of(1, s.From, s.To, 3)
		is(t, "Add", adds(t, 3, nil, nil, r), r)
		refuses(t, api.ErrRoom, 2, nil, nil, r)
	}
}

// P9.1: needs that are no amount.
func TestAddErrAmount(t *testing.T) {
	for _, need := range noAmounts() {
		refuses(t, api.ErrAmount, great+great*1i, nil, nil, of(1, 0, 1, need))
		refuses(t, api.ErrAmount, 1, nil, clients(2), of(2, 5, 6, need))
	}
}

// P9.1, R5: a need of 0, of all there may be, and parts that are -0.
func TestAddRightNeeds(t *testing.T) {
	for _, need := range []complex128{0, 1, 1i, great, great * 1i, great + great*1i, complex(zero(), zero()), complex(zero(), 1), complex(1, zero()), complex(0, zero())} {
		r := of(3, 0, forever, need)
		is(t, "Add", adds(t, great+great*1i, nil, nil, r), r)
		is(t, "Add", adds(t, need, nil, nil, r), r)
	}
	for _, need := range []complex128{0, complex(zero(), 0), complex(0, zero()), complex(zero(), zero())} {
		full := []api.Busy{busy(0, forever, 1)}
		is(t, "Add of nothing", adds(t, 1, full, nil, of(3, 0, forever, need)), of(3, 0, forever, 0))
		is(t, "Add of nothing", adds(t, need, nil, nil, of(3, 0, 4, need)), of(3, 0, 4, 0))
	}
}

// P9.1: an ID and an N that are there, at any place and however often.
func TestAddErrTwice(t *testing.T) {
	a, b, c := key(1, 2, 3, 0), key(1, 2, 4, 0), key(2, 1, 3, 0)
	sure := b
	sure.Sure = true
	for _, l := range [][]api.Resv{{b}, {sure}, {b, a, c}, {a, b, c}, {a, c, b}, {b, b}, {b, a, b}, {b, b, b}, {c, sure, a}, {c, b, sure, b, a}} {
		for _, from := range []int{1, 7, forever - 1} {
			refuses(t, api.ErrTwice, 3, nil, l, api.Resv{ID: b.ID, N: b.N, Busy: busy(from, from+1, 1), Until: 9, Sure: from == 7})
		}
	}
	refuses(t, api.ErrTwice, 3, nil, []api.Resv{{}}, of(0, 1, 2, 0))
	full := clients(api.MaxResvs - 1)
	for _, r := range full {
		refuses(t, api.ErrTwice, 3, nil, full, of(r.N, 100, 101, 1))
	}
}

// P9.1: the ID alone, the N alone, or a part of the ID, is not twice.
func TestAddNotTwice(t *testing.T) {
	l := []api.Resv{key(1, 2, 3, 0)}
	for _, r := range []api.Resv{key(1, 2, 4, 0), key(1, 2, 0, 0), key(2, 2, 3, 0), key(1, 1, 3, 0), key(1, 3, 3, 0), key(0, 0, 3, 0), key(2, 1, 3, 0), key(3, 2, 1, 0), key(1, 3, 2, 0)} {
		if more := adds(t, 3, nil, l, r); len(more) != 2 || !slices.Contains(more, r) || !slices.Contains(more, l[0]) {
			t.Errorf("Add of %v: %v", r, more)
		}
	}
}

// wrongs is what may be wrong about a call of Add, in the order in which it is told.
var wrongs = []api.Errno{api.ErrFull, api.ErrSpan, api.ErrAmount, api.ErrTwice, api.ErrRoom}

// P9.1, R4: of all that is wrong at once, the first is told.
func TestAddTellsTheFirstError(t *testing.T) {
	for set := range 1 << len(wrongs) {
		has := func(i int) bool { return set>>i&1 == 1 }
		l, r, cap, want := clients(3), of(9, 9, 10, 1), complex128(1), api.OK
		if has(0) {
			l = clients(api.MaxResvs)
			r.N = api.MaxResvs
		}
		if has(1) {
			r.Busy.To = r.Busy.From
		}
		if has(2) {
			r.Busy.Need = 0.5
		}
		if has(3) {
			r.N = 2
		}
		if has(4) {
			cap = 0
		}
		for i := range wrongs {
			if has(i) {
				want = wrongs[i]
				break
			}
		}
		more, e := resv.Add(cap, nil, l, r)
		if e != want || e != api.OK && len(more) > 0 || e == api.OK && len(more) != 4 {
			t.Errorf("%05b: %d with %d reservations, want %d", set, e, len(more), want)
		}
	}
}

// P9.1, R4: each kind of no room stands behind ErrTwice.
func TestAddTwiceAheadOfRoom(t *testing.T) {
	l := []api.Resv{of(1, 0, 5, 2)}
	for _, b := range []api.Busy{busy(0, 1, 3), busy(1, 1, 0), busy(0, 1, -1)} {
		refuses(t, api.ErrTwice, 2, []api.Busy{b}, l, of(1, 7, 8, 0))
		refuses(t, api.ErrRoom, 2, []api.Busy{b}, l, of(2, 7, 8, 0))
	}
	refuses(t, api.ErrTwice, -1, nil, l, of(1, 7, 8, 0))
	refuses(t, api.ErrTwice, 2, nil, l, of(1, 3, 4, 9))
}

// P9.1: r must fit beside busy and l, both of them.
func TestAddErrRoom(t *testing.T) {
	for name, x := range map[string]struct {
		busy []api.Busy
		l    []api.Resv
		r    api.Resv
		want api.Errno
	}{
		"beside both":        {[]api.Busy{busy(0, 5, 1)}, []api.Resv{of(1, 2, 7, 1)}, of(2, 3, 4, 1), api.OK},
		"alone too much":     {nil, nil, of(2, 3, 4, 4), api.ErrRoom},
		"not beside both":    {[]api.Busy{busy(0, 5, 1)}, []api.Resv{of(1, 2, 7, 1)}, of(2, 3, 4, 2), api.ErrRoom},
		"not beside busy":    {[]api.Busy{busy(0, 5, 2)}, []api.Resv{of(1, 10, 12, 3)}, of(2, 3, 4, 2), api.ErrRoom},
		"not beside l":       {[]api.Busy{busy(10, 12, 3)}, []api.Resv{of(1, 0, 5, 2)}, of(2, 3, 4, 2), api.ErrRoom},
		"busy is too much":   {[]api.Busy{busy(0, 5, 2), busy(4, 6, 2)}, nil, of(2, 8, 9, 0), api.ErrRoom},
		"l is too much":      {nil, []api.Resv{of(1, 0, 5, 2), of(3, 4, 6, 2)}, of(2, 8, 9, 0), api.ErrRoom},
		"l beside busy":      {[]api.Busy{busy(0, 5, 2)}, []api.Resv{of(1, 4, 6, 2)}, of(2, 8, 9, 0), api.ErrRoom},
		"one of busy":        {[]api.Busy{busy(0, 5, 4)}, nil, of(2, 8, 9, 0), api.ErrRoom},
		"one of l":           {nil, []api.Resv{of(1, 0, 5, 4)}, of(2, 8, 9, 0), api.ErrRoom},
		"sure or not":        {nil, []api.Resv{{N: 1, Busy: busy(0, 5, 3), Sure: true}}, of(2, 4, 5, 1), api.ErrRoom},
		"until is over":      {nil, []api.Resv{{N: 1, Busy: busy(0, 5, 3), Until: -9}}, of(2, 4, 5, 1), api.ErrRoom},
		"licences":           {nil, []api.Resv{of(1, 0, 5, 1+1i)}, of(2, 4, 5, 1i), api.ErrRoom},
		"licences that fit":  {nil, []api.Resv{of(1, 0, 5, 1+1i)}, of(2, 5, 6, 1i), api.OK},
		"no licence is need": {nil, []api.Resv{of(1, 0, 5, 1+1i)}, of(2, 4, 5, 2), api.OK},
	} {
		if _, e := resv.Add(3+1i, x.busy, x.l, x.r); e != x.want {
			t.Errorf("%s: %d, want %d", name, e, x.want)
		}
		if x.want != api.OK {
			refuses(t, x.want, 3+1i, x.busy, x.l, x.r)
		}
	}
}

// P9.1: whatever profile.New refuses, of busy, of the list or of cap, is no room.
func TestAddErrRoomOfWhatIsWrong(t *testing.T) {
	r, good := of(2, 8, 9, 0), busy(0, 1, 0)
	for _, s := range noSpans() {
		b := busy(s.From, s.To, 0)
		for _, l := range [][]api.Busy{{b}, {b, good}, {good, b}, {good, b, good}} {
			refuses(t, api.ErrRoom, 3, l, nil, r)
			refuses(t, api.ErrRoom, 3, l, clients(2), r)
		}
		odd := api.Resv{N: 1, Busy: b, Until: 50}
		for _, l := range [][]api.Resv{{odd}, {odd, of(3, 1, 2, 0)}, {of(0, 1, 2, 0), odd}, {of(0, 1, 2, 0), odd, of(3, 1, 2, 0)}} {
			refuses(t, api.ErrRoom, 3, nil, l, r)
			refuses(t, api.ErrRoom, 3, []api.Busy{good}, l, r)
		}
	}
	for _, no := range noAmounts() {
		refuses(t, api.ErrRoom, no, nil, nil, r)
		refuses(t, api.ErrRoom, no, []api.Busy{good}, clients(1), r)
		refuses(t, api.ErrRoom, great+great*1i, []api.Busy{good, busy(5, 6, no)}, nil, r)
		refuses(t, api.ErrRoom, great+great*1i, nil, []api.Resv{of(0, 1, 2, 0), of(1, 5, 6, no)}, r)
	}
}

// P9.1: one tick of the span without room is enough, and none at its end, nor ahead of it.
func TestAddRoomAtEachTick(t *testing.T) {
	r := of(2, 10, 15, 2)
	for at := 7; at < 18; at++ {
		want := api.OK
		if at >= 10 && at < 15 {
			want = api.ErrRoom
		}
		tight := busy(at, at+1, 2)
		_, beside := resv.Add(3, []api.Busy{tight}, nil, r)
		_, held := resv.Add(3, nil, []api.Resv{{N: 1, Busy: tight}}, r)
		half := busy(at, at+1, 1)
		_, both := resv.Add(3, []api.Busy{half}, []api.Resv{{N: 1, Busy: half}}, r)
		if beside != want || held != want || both != want {
			t.Errorf("wanting at %d: %d, %d, %d, want %d", at, beside, held, both, want)
		}
	}
	refuses(t, api.ErrRoom, 3, []api.Busy{busy(forever-1, forever, 2)}, nil, of(2, 0, forever, 2))
	adds(t, 3, []api.Busy{busy(forever-1, forever, 2)}, nil, of(2, 0, forever-1, 2))
	refuses(t, api.ErrRoom, 3, []api.Busy{busy(0, 1, 2)}, nil, of(2, 0, forever, 2))
	adds(t, 3, []api.Busy{busy(0, 1, 2)}, nil, of(2, 1, forever, 2))
}
