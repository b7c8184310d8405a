package rank_test

import (
	"reflect"
	"slices"
	"testing"

	"hanse/api"
	"hanse/rank"
)

// room answers where a list's memory begins and ends, spare room too.
func room[T any](l []T) (from, to uintptr) {
	v := reflect.ValueOf(l)
	return v.Pointer(), v.Pointer() + uintptr(cap(l))*v.Type().Elem().Size()
}

// apart tells a fault, if two lists share memory, spare room too.
func apart[S, T any](t *testing.T, what string, one []S, other []T) {
	t.Helper()
	a, b := room(one)
	c, d := room(other)
	if a < b && c < d && a < d && c < b {
		t.Errorf("%s share memory", what)
	}
}

// spoil overwrites a list and its spare room.
func spoil[T any](l []T, with T) {
	l = l[:cap(l)]
	for i := range l {
		l[i] = with
	}
}

// whole answers all of a list's memory, as it is now.
func whole[T any](l []T) []T {
	return slices.Clone(l[:cap(l)])
}

// spared answers so many uses, with spare room behind them that holds uses, too.
func spared(many int) []api.Use {
	return []api.Use{use(1, 641, 9), use(4, most, 2000), use(5, 5, 5), use(9, 0, 0), use(12, 77, forever), use(15, 1<<40, 3)}[:many]
}

// sites answers a list of sites with spare room.
func sites(n int) []int {
	return []int{n, n + 1, n + 2, 99, 98}[:3]
}

// lined answers so many copies, with sites, with spare room behind them that holds copies, too.
func lined(many int) []api.Copy {
	l := make([]api.Copy, 0, 20)
	for n := range 20 {
		c := of(n%2, 20-n, n%16, n%3, 40-n%4)
		c.Job.Sites = sites(n)
		c.St, c.Token = api.CopyQueued, n
		l = append(l, c)
	}
	return l[:many]
}

// users answers whom the tests charge: there and not there, first and last, and none.
func users() []int {
	return []int{0, 1, 2, 4, 5, 7, 9, 12, 14, 15, 16, -1}
}

// R2: Charge leaves the uses as they were, their spare room too, whether it refuses or not, and answers no part of them.
func TestChargeLeavesWhatIsHandedIn(t *testing.T) {
	for many := range 7 {
		for _, user := range users() {
			for _, sum := range []int{0, 5, most, -1} {
				for _, now := range []int{0, 2000, forever, -1} {
					uses := spared(many)
					was := whole(uses)
					got, _ := rank.Charge(uses, user, sum, now)
					if !slices.Equal(whole(uses), was) {
						t.Fatalf("Charge of %d with %d at %d changed what was handed in", user, sum, now)
					}
					apart(t, "what Charge answers, and what it was handed,", got, uses)
					spoil(got, use(8, 8, 8))
					_ = append(got, use(8, 8, 8))
					if !slices.Equal(whole(uses), was) {
						t.Fatalf("Charge of %d with %d at %d answers what was handed in", user, sum, now)
					}
				}
			}
		}
	}
}

// R2: nor does it change uses that are not right.
func TestChargeLeavesWrongUses(t *testing.T) {
	for _, uses := range wrongUses() {
		was := whole(uses)
		for user := range api.MaxUsers {
			got, _ := rank.Charge(uses, user, 5, 9)
			apart(t, "what Charge answers, and wrong uses,", got, uses)
			rank.Of(of(0, 0, user, 0, 0), uses, 9)
			rank.Order([]api.Copy{of(0, 0, user, 0, 0), of(0, 1, user, 0, 0)}, uses, 9)
		}
		if !slices.Equal(whole(uses), was) {
			t.Errorf("%v became %v", was, whole(uses))
		}
	}
}

// R2, R3: what Charge answers stays, whatever is done with other answers and with what was handed in, and is answered again.
func TestChargesStay(t *testing.T) {
	for many := range 7 {
		for _, user := range users() {
			uses := spared(many)
			one, e := rank.Charge(uses, user, 5, 3000)
			was, spare := slices.Clone(one), whole(one)
			other, _ := rank.Charge(uses, user, 5, 3000)
			apart(t, "two answers", one, other)
			next, _ := rank.Charge(one, user, 5, 3000)
			apart(t, "an answer, and one that is made of it,", one, next)
			spoil(other, use(7, 7, 7))
			spoil(next, use(7, 7, 7))
			spoil(uses, use(7, 7, 7))
			if !slices.Equal(one, was) || !slices.Equal(whole(one), spare) {
				t.Errorf("what was answered for %d of %d did not stay", user, many)
			}
			again, f := rank.Charge(spared(many), user, 5, 3000)
			if f != e || !slices.Equal(again, was) {
				t.Errorf("Charge of %d of %d answers %v, %d, then %v, %d", user, many, was, e, again, f)
			}
		}
	}
}

// R2: Of and Order leave copies, their jobs' lists and uses as they were, spare room too, and the places are no part of them.
func TestOrderLeavesWhatIsHandedIn(t *testing.T) {
	for many := range 21 {
		for k := range 7 {
			for _, now := range []int{-1, 0, 38, 39, 3000, forever} {
				copies, uses := lined(many), spared(k)
				was := whole(uses)
				l := rank.Order(copies, uses, now)
				for _, c := range copies {
					rank.Of(c, uses, now)
					apart(t, "places and sites", l, c.Job.Sites)
				}
				apart(t, "places and copies", l, copies)
				apart(t, "places and uses", l, uses)
				spoil(l, -77)
				_ = append(l, -77)
				if !slices.Equal(whole(uses), was) || !reflect.DeepEqual(whole(copies), lined(20)) {
					t.Fatalf("Order of %d changed what was handed in", many)
				}
				for n, c := range whole(copies) {
					if !slices.Equal(whole(c.Job.Sites), whole(sites(n))) {
						t.Fatalf("Order of %d changed sites", many)
					}
				}
			}
		}
	}
}

// R2, R3: places stay, whatever is done with other answers and with what was handed in, and are answered again.
func TestOrdersStay(t *testing.T) {
	for many := range 21 {
		copies, uses := lined(many), spared(6)
		one := rank.Order(copies, uses, 50)
		was, spare := slices.Clone(one), whole(one)
		other := rank.Order(copies, uses, 50)
		apart(t, "two rows of places", one, other)
		spoil(other, -77)
		for i := range copies {
			spoil(copies[i].Job.Sites, -77)
			copies[i].Job.Sites = nil
		}
		spoil(copies, of(-7, -7, 0, 0, 0))
		spoil(uses, use(7, 7, 7))
		rank.Order(copies, uses, 60)
		if !slices.Equal(one, was) || !slices.Equal(whole(one), spare) {
			t.Errorf("places of %d did not stay", many)
		}
		stand(t, lined(many), spared(6), 50, was...)
	}
}

// R6: what lies behind a list's length is not looked at.
func TestSpareRoomIsNotRead(t *testing.T) {
	uses := []api.Use{use(3, 640, 0), use(5, 640, 0), use(5, 640, 0), use(99, -1, -1)}
	is(t, of(0, 1, 5, 1, 0), uses[:1], 0, 4096)
	is(t, of(0, 1, 3, 1, 0), uses[:1], 0, 4086)
	is(t, of(0, 1, 3, 1, 0), uses[:0], 0, 4096)
	is(t, of(0, 1, 5, 1, 0), uses[:2], 0, 4086)
	charges(t, uses[:1], 5, 7, 0, use(3, 640, 0), use(5, 7, 0))
	charges(t, uses[:0], 3, 7, 0, use(3, 7, 0))
	charges(t, uses[:2], 9, 7, 0, use(3, 640, 0), use(5, 640, 0), use(9, 7, 0))
	copies := []api.Copy{of(0, 2, 5, 1, 0), of(0, 1, 3, 1, 0), of(0, 0, 0, 9, 0)}
	stand(t, copies[:2], uses[:1], 0, 0, 1)
	stand(t, copies[:2], uses[:0], 0, 1, 0)
	stand(t, copies[:1], uses[:3], 0, 0)
	stand(t, copies[:0], uses[:1], 0)
	stand(t, copies, uses[:1], 0, 2, 0, 1)
}

// R3: what was asked ahead is not seen.
func TestCallsHaveNothingInCommon(t *testing.T) {
	type answer struct {
		left, points int
		uses         []api.Use
		places       []int
	}
	ask := func(user, now int) answer {
		uses, copies := spared(6), lined(20)
		left, _ := rank.Decayed(use(user, 6401, 9), now)
		more, _ := rank.Charge(uses, user, 64, now)
		return answer{left, rank.Of(copies[user], uses, now), more, rank.Order(copies, more, now)}
	}
	answers := map[[2]int]answer{}
	for user := range api.MaxUsers {
		for _, now := range []int{-1, 0, 1024, 3000, forever} {
			answers[[2]int{user, now}] = ask(user, now)
		}
	}
	for key, want := range answers {
		if got := ask(key[0], key[1]); !reflect.DeepEqual(got, want) {
			t.Errorf("%v: %v, and now %v", key, want, got)
		}
	}
}
