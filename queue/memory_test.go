package queue_test

import (
	"math"
	"reflect"
	"slices"
	"testing"

	"hanse/api"
	"hanse/queue"
)

// room answers where a list's memory begins and ends, spare room too.
func room[T any](l []T) (from, to uintptr) {
	v := reflect.ValueOf(l)
	return v.Pointer(), v.Pointer() + uintptr(cap(l))*v.Type().Elem().Size()
}

// apart tells a fault, if two lists share memory, spare room too.
func apart[S, T any](t *testing.T, what string, one []S, other []T) {
	t.Helper()
	a, b := room(one)
	c, d := room(other)
	if a < b && c < d && a < d && c < b {
		t.Errorf("%s share memory", what)
	}
}

// spoil overwrites a list and its spare room.
func spoil[T any](l []T, with T) {
	l = l[:cap(l)]
	for i := range l {
		l[i] = with
	}
}

// spared answers the first many of l, those behind them as spare room.
func spared[T any](many int, l ...T) []T {
	return l[:many]
}

// sites answers sites with spare room.
func sites() []int {
	return spared(3, 0, 2, 3, 1, 99, -1)
}

// caps answers five clusters' amounts, with spare room.
func caps() []complex128 {
	return spared(5, 8+4i, complex(1, minusZero), 4+4i, 5+2i, 1, 77, -1, 0.5)
}

// uses answers uses that are right, with spare room.
func uses() []api.Use {
	return spared(3, api.Use{User: 1, Sum: 641, At: 9}, api.Use{User: 4, Sum: 1 << 60, At: 2000}, api.Use{User: 9}, api.Use{User: 12, Sum: 77}, api.Use{User: -1})
}

// task answers a job with sites.
func task(n int) api.Job {
	return api.Job{ID: api.ID{At: n % 2, N: n}, User: n % 16, Need: complex(3, minusZero), Wall: 10, Run: 8, Base: n % 3, Sites: sites()}
}

// spans answers spans with spare room.
func spans() []api.Span {
	return spared(1, api.Span{From: 1, To: 2}, api.Span{From: 7, To: 9})
}

// ownsOf answers many owns, with all that they hold, with spare room that holds owns, too.
func ownsOf(many int) []api.Own {
	l := make([]api.Own, 0, 80)
	for n := range 80 {
		l = append(l, api.Own{Job: task(n + 1), Phase: 1 + n%8, Holder: -1, How: 1 + n%5, Marks: spared(2, 1, 2, 3), Offers: spared(1, api.Offer{Site: 2, Spans: spans()}, api.Offer{Site: 9}), Parts: spared(1, api.Part{Site: 2}, api.Part{Site: 8})})
	}
	return l[:many]
}

// copiesOf answers many copies, with spare room that holds copies, too.
func copiesOf(many int) []api.Copy {
	l := make([]api.Copy, 0, 40)
	for n := range 40 {
		l = append(l, api.Copy{Job: task(n), St: n % 4, Since: 40 - n%7, Token: n})
		l[n].Job.Pact = n%5 == 4
	}
	return l[:many]
}

// lists calls f with each list of ints that stands in x's memory, spare rooms too.
func lists(x reflect.Value, f func(l []int)) {
	switch x.Kind() {
	case reflect.Slice:
		if l, ok := x.Interface().([]int); ok {
			f(l)
		}
		all := x.Slice(0, x.Cap())
		for i := range all.Len() {
			lists(all.Index(i), f)
		}
	case reflect.Struct:
		for i := range x.NumField() {
			lists(x.Field(i), f)
		}
	}
}

// same tells whether all memory of one and other, spare rooms too, holds the same bits.
func same(one, other reflect.Value) bool {
	switch one.Kind() {
	case reflect.Slice:
		if one.Len() != other.Len() || one.Cap() != other.Cap() {
			return false
		}
		one, other = one.Slice(0, one.Cap()), other.Slice(0, other.Cap())
		for i := range one.Len() {
			if !same(one.Index(i), other.Index(i)) {
				return false
			}
		}
		return true
	case reflect.Struct:
		for i := range one.NumField() {
			if !same(one.Field(i), other.Field(i)) {
				return false
			}
		}
		return true
	case reflect.Complex128:
		x, y := one.Complex(), other.Complex()
		return math.Float64bits(real(x)) == math.Float64bits(real(y)) && math.Float64bits(imag(x)) == math.Float64bits(imag(y))
	}
	return one.Interface() == other.Interface()
}

// left tells a fault, unless what was handed in is as it was.
func left[T any](t *testing.T, what string, is, was []T) {
	t.Helper()
	if !same(reflect.ValueOf(is), reflect.ValueOf(was)) {
		t.Fatalf("%s were changed to %v, from %v", what, is, was)
	}
}

// leaves tells a fault, unless Admit leaves what it is handed as it was; it answers what Admit does.
func leaves(t *testing.T, many, me, sited int, j api.Job) api.Errno {
	t.Helper()
	a, o, s := caps(), ownsOf(many), sites()[:sited]
	j.Sites = s
	e := queue.Admit(a, me, o, j)
	left(t, "clusters", a, caps())
	left(t, "owns", o, ownsOf(many))
	left(t, "sites", s, sites()[:sited])
	return e
}

// R2: Admit leaves the clusters, owns, and sites as they were, all that they hold and their spare rooms too, whatever it answers.
func TestAdmitLeavesWhatIsHandedIn(t *testing.T) {
	told := map[api.Errno]bool{}
	for _, many := range []int{0, 5, 63, 64} {
		for _, me := range []int{-1, 0, 1, 5} {
			for _, after := range []int{-1, 0, 1, 8, 3000} {
				for _, need := range []complex128{3, complex(3, minusZero), 4 + 2i, 9, complex(math.NaN(), 1)} {
					for _, sited := range []int{0, 1, 3} {
						for _, wall := range []int{10, 65537} {
							told[leaves(t, many, me, sited, api.Job{User: 3, Need: need, Wall: wall, Run: 9, After: after})] = true
						}
					}
				}
			}
		}
	}
	for _, e := range []api.Errno{api.OK, api.ErrPeer, api.ErrJob, api.ErrWall, api.ErrSites, api.ErrFit, api.ErrAfter, api.ErrFull} {
		if !told[e] {
			t.Errorf("%d was not told", e)
		}
	}
}

// R2: so it does where the user has too many jobs.
func TestAdmitLeavesCrowds(t *testing.T) {
	crowded := func() []api.Own { return spared(17, crowd(1, 30, 3, api.OwnGiven)...) }
	o, s := crowded(), sites()
	answers(t, ask{caps(), 1, o, api.Job{User: 3, Need: 3, Wall: 10, Run: 9, Sites: s}}, api.ErrUser)
	left(t, "owns", o, crowded())
	left(t, "sites", s, sites())
}

// R2: Ready leaves copies, their jobs' sites and uses as they were, spare rooms too, and the places are no part of them.
func TestReadyLeavesWhatIsHandedIn(t *testing.T) {
	for many := range 41 {
		for k := range 4 {
			for _, now := range []int{-1, 0, 38, 3000, forever} {
				copies, used := copiesOf(many), uses()[:k]
				l := queue.Ready(copies, used, now)
				apart(t, "places and copies", l, copies)
				apart(t, "places and uses", l, used)
				lists(reflect.ValueOf(copies), func(s []int) { apart(t, "places and sites", l, s) })
				spoil(l, -77)
				_ = append(l, -77)
				left(t, "copies", copies, copiesOf(many))
				left(t, "uses", used, uses()[:k])
			}
		}
	}
}

// R2: nor does it change uses that are not right.
func TestReadyLeavesWrongUses(t *testing.T) {
	for i, used := range wrongUses() {
		copies := copiesOf(30)
		apart(t, "places and wrong uses", queue.Ready(copies, used, 60), used)
		left(t, "wrong uses", used, wrongUses()[i])
		left(t, "copies", copies, copiesOf(30))
	}
}

// R2, R3: places stay, whatever is done with other answers and with what was handed in, and are answered again.
func TestReadyStays(t *testing.T) {
	for many := range 41 {
		copies, used := copiesOf(many), uses()
		one := queue.Ready(copies, used, 50)
		was, spare := slices.Clone(one), slices.Clone(one[:cap(one)])
		other := queue.Ready(copies, used, 50)
		apart(t, "two rows of places", one, other)
		spoil(other, -77)
		lists(reflect.ValueOf(copies), func(l []int) { spoil(l, -77) })
		spoil(copies, api.Copy{St: api.CopyLocked})
		spoil(used, api.Use{User: 7})
		queue.Ready(copies, used, 60)
		if !slices.Equal(one, was) || !slices.Equal(one[:cap(one)], spare) {
			t.Errorf("places of %d did not stay", many)
		}
		stand(t, copiesOf(many), uses(), 50, was...)
	}
}

// R6: what lies behind a list's length is not looked at.
func TestSpareRoomIsNotRead(t *testing.T) {
	full := crowd(1, 80, 3, api.OwnOpen)
	answers(t, among(3, full[:15]...), api.OK)
	answers(t, among(3, full[:16]...), api.ErrUser)
	answers(t, among(9, full[:63]...), api.OK)
	answers(t, among(9, full[:64]...), api.ErrFull)
	answers(t, behind(20, full[:15]...), api.ErrAfter)
	answers(t, behind(15, full[:15]...), api.OK)
	answers(t, wide(64, false, upTo(0, 20)[:8]...), api.OK)
	answers(t, wide(64, true, upTo(0, 20)[:1]...), api.ErrSites)
	answers(t, wide(64, false, upTo(0, 20)[:0]...), api.ErrSites)
	few := wide(64, false, 0, 5)
	few.caps = few.caps[:5]
	answers(t, few, api.ErrSites)
	l := []api.Copy{of(0, 2, 3, 1, 0), of(0, 1, 5, 1, 0), of(0, 0, 0, 9, 0)}
	used := []api.Use{{User: 5, Sum: 640}, {User: 3, Sum: 6400}, {User: 99}}
	stand(t, l[:2], used[:1], 0, 0, 1)
	stand(t, l[:2], used[:0], 0, 1, 0)
	stand(t, l[:1], used[:3], 0, 0)
	stand(t, l[:0], used[:1], 0)
	stand(t, l, used[:1], 0, 2, 0, 1)
}

// R2: nil and an empty list mean the same.
func TestNilIsEmpty(t *testing.T) {
	answers(t, with(func(a *ask) { a.owns = nil }), api.OK)
	answers(t, with(func(a *ask) { a.owns = []api.Own{} }), api.OK)
	for _, now := range someNows() {
		one, other := queue.Ready(copiesOf(40), nil, now), queue.Ready(copiesOf(40), []api.Use{}, now)
		if !slices.Equal(one, other) {
			t.Errorf("at %d %v without uses, %v of no uses", now, one, other)
		}
	}
}

// R3: what was asked ahead is not seen.
func TestCallsHaveNothingInCommon(t *testing.T) {
	type answer struct {
		e      api.Errno
		places []int
	}
	tell := func(seed uint64) answer {
		roll := dice(seed)
		a := someAsk(roll)
		twist(roll, &a)
		return answer{queue.Admit(a.caps, a.me, a.owns, a.j), queue.Ready(someCopies(roll, 30), someUses(roll), roll(9000))}
	}
	var told []answer
	for seed := range uint64(500) {
		told = append(told, tell(seed))
	}
	for i := range told {
		seed := len(told) - 1 - i
		if got := tell(uint64(seed)); !reflect.DeepEqual(got, told[seed]) {
			t.Errorf("%d: %v, and now %v", seed, told[seed], got)
		}
	}
}
