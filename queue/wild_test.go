package queue_test

import (
	"math"
	"testing"

	"hanse/api"
	"hanse/queue"
)

// wildInt answers any number, mostly one at an edge.
func wildInt(roll func(n int) int) int {
	return pick(roll, leastInt, leastInt+1, -1, 0, 1, 2, 8, 15, 16, 63, 64, 65, 65536, 65537, forever, forever+1, mostInt-1, mostInt, roll(9))
}

// wildNeed answers any complex number.
func wildNeed(roll func(n int) int) complex128 {
	parts := append(oddParts(), math.MaxFloat64, -math.MaxFloat64, math.SmallestNonzeroFloat64, 1<<63, -1<<63)
	return complex(pick(roll, parts...), pick(roll, parts...))
}

// wildList answers a list of any length up to most, nil too.
func wildList[T any](roll func(n int) int, most int, one func(roll func(n int) int) T) []T {
	var l []T
	for range roll(roll(most) + 1) {
		l = append(l, one(roll))
	}
	return l
}

func wildJob(roll func(n int) int) api.Job {
	return api.Job{
		ID: api.ID{At: wildInt(roll), N: wildInt(roll)}, User: wildInt(roll), Need: wildNeed(roll), Wall: wildInt(roll), Run: wildInt(roll),
		Base: wildInt(roll), After: wildInt(roll), Sites: wildList(roll, 12, wildInt), Pact: roll(2) == 0,
	}
}

func wildOwn(roll func(n int) int) api.Own {
	return api.Own{Job: wildJob(roll), Phase: wildInt(roll), Holder: wildInt(roll), Token: wildInt(roll), How: wildInt(roll), Marks: wildList(roll, 3, wildInt)}
}

func wildCopy(roll func(n int) int) api.Copy {
	return api.Copy{Job: wildJob(roll), St: wildInt(roll), Since: wildInt(roll), Low: wildInt(roll), Token: wildInt(roll), At: wildInt(roll), How: wildInt(roll), End: wildInt(roll)}
}

func wildUse(roll func(n int) int) api.Use {
	return api.Use{User: wildInt(roll), Sum: wildInt(roll), At: wildInt(roll)}
}

// R1: whatever they are handed, the calls end, do not panic, and answer as the model does.
func TestNothingPanics(t *testing.T) {
	for seed := range uint64(20000) {
		roll := dice(seed)
		asModelled(t, ask{wildList(roll, 80, wildNeed), wildInt(roll), wildList(roll, 10, wildOwn), wildJob(roll)})
		copies, used, now := wildList(roll, 12, wildCopy), wildList(roll, 4, wildUse), wildInt(roll)
		stand(t, copies, used, now, readied(copies, used, now)...)
	}
}

// R1: so they do where all but some words of a right ask are wild.
func TestNothingPanicsHalfWild(t *testing.T) {
	for seed := range uint64(20000) {
		roll := dice(seed)
		a := someAsk(roll)
		switch roll(5) {
		case 0:
			a.caps = wildList(roll, 70, wildNeed)
		case 1:
			a.me = wildInt(roll)
		case 2:
			a.owns = wildList(roll, 70, wildOwn)
		case 3:
			a.j.Sites = wildList(roll, 12, wildInt)
		case 4:
			a.j = wildJob(roll)
		}
		asModelled(t, a)
	}
}

// R1, R7: long lists end, too.
func TestLongLists(t *testing.T) {
	const many = 1 << 17
	owns := crowd(1, many, 3, api.OwnClosed)
	answers(t, among(3, owns...), api.ErrFull)
	answers(t, behind(many, owns...), api.ErrFull)
	answers(t, behind(many+1, owns...), api.ErrAfter)
	answers(t, wide(64, false, upTo(0, many)...), api.ErrSites)
	answers(t, ask{alike(many, 4), many - 1, owns, common().j}, api.ErrPeer)
	copies := make([]api.Copy, many)
	for i := range copies {
		copies[i] = in(of(0, many-i, 0, i%7, i%3), i%8)
	}
	l := queue.Ready(copies, nil, 9)
	if len(l) != many/4 {
		t.Errorf("%d of %d", len(l), many)
	}
}
