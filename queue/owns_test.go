package queue_test

import (
	"slices"
	"testing"

	"hanse/api"
)

// own answers an own job of that number, user, phase and end.
func own(n, user, phase, how int) api.Own {
	return api.Own{Job: api.Job{ID: api.ID{N: n}, User: user}, Phase: phase, How: how}
}

// crowd answers so many own jobs of the user, in that phase, numbered from first on.
func crowd(first, many, user, phase int) []api.Own {
	var l []api.Own
	for i := range many {
		l = append(l, own(first+i, user, phase, api.HowDone))
	}
	return l
}

// behind answers the common ask with a job that waits for number after, among these owns.
func behind(after int, owns ...api.Own) ask {
	return with(func(a *ask) { a.j.After, a.owns = after, owns })
}

// among answers the common ask by that user, among these owns.
func among(user int, owns ...api.Own) ask {
	return with(func(a *ask) { a.j.User, a.owns = user, owns })
}

// phases answers all phases, and numbers that are none.
func phases() []int {
	return []int{leastInt, -1, 0, api.OwnWaits, api.OwnOpen, api.OwnGiven, api.OwnAsking, api.OwnTrying, api.OwnBound, api.OwnBreaking, api.OwnClosed, api.OwnClosed + 1, mostInt}
}

// P12.1: a job may wait for one that is not closed, whatever else that one's is, or for one that is done.
func TestAdmitAfter(t *testing.T) {
	hows := []int{leastInt, -1, api.HowNone, api.HowDone, api.HowKilled, api.HowCancelled, api.HowMissed, api.HowFailed, api.HowFailed + 1, mostInt}
	for _, after := range []int{1, 2, 64, 1 << 39, mostInt} {
		for _, phase := range phases() {
			for _, how := range hows {
				want := api.OK
				if phase == api.OwnClosed && how != api.HowDone {
					want = api.ErrAfter
				}
				answers(t, behind(after, own(after, 3, phase, how)), want)
				answers(t, behind(after, own(after, 9, phase, how)), want)
				answers(t, behind(0, own(after, 3, phase, how)), api.OK)
				answers(t, behind(after-1, own(after, 3, phase, how)), map[bool]api.Errno{true: api.OK, false: api.ErrAfter}[after == 1])
			}
		}
	}
}

// P12.1: what is not there can't be waited for; what is not waited for need not be there.
func TestAdmitAfterNone(t *testing.T) {
	for _, after := range []int{1, 2, 9, 63, 64, forever, mostInt} {
		answers(t, behind(after), api.ErrAfter)
		answers(t, behind(after, crowd(after-50, 50, 9, api.OwnClosed)...), api.ErrAfter)
		answers(t, behind(after, own(-after, 3, api.OwnClosed, api.HowDone), own(0, 3, api.OwnClosed, api.HowDone)), api.ErrAfter)
	}
	answers(t, behind(0), api.OK)
	for _, phase := range phases() {
		answers(t, behind(0, own(0, 3, phase, api.HowFailed)), api.OK)
		answers(t, behind(0, own(1, 3, phase, api.HowFailed)), api.OK)
	}
}

// P12.1: it is found at each place, by its number alone.
func TestAdmitAfterAnyPlace(t *testing.T) {
	for _, many := range []int{1, 2, 16, 63} {
		for at := range many {
			l := crowd(100, many, 9, api.OwnClosed)
			for i := range l {
				l[i].How = api.HowKilled
			}
			answers(t, behind(7, l...), api.ErrAfter)
			answers(t, behind(100+at, l...), api.ErrAfter)
			for _, cluster := range []int{0, 1, 5, -1, mostInt} {
				l[at] = own(7, 9, api.OwnClosed, api.HowDone)
				l[at].Job.ID.At = cluster
				answers(t, behind(7, l...), api.OK)
				l[at].Phase, l[at].How = api.OwnOpen, api.HowNone
				answers(t, behind(7, l...), api.OK)
				l[at].Phase, l[at].How = api.OwnClosed, api.HowFailed
				answers(t, behind(7, l...), api.ErrAfter)
			}
		}
	}
}

// P12.1: of two of that number the first one counts.
func TestAdmitAfterTwice(t *testing.T) {
	good := []api.Own{own(7, 3, api.OwnWaits, 0), own(7, 9, api.OwnOpen, api.HowFailed), own(7, 3, api.OwnBound, 0), own(7, 9, api.OwnClosed, api.HowDone)}
	bad := []api.Own{own(7, 3, api.OwnClosed, api.HowFailed), own(7, 9, api.OwnClosed, api.HowCancelled), own(7, 3, api.OwnClosed, api.HowNone)}
	for _, one := range good {
		for _, next := range bad {
			for _, gap := range [][]api.Own{nil, crowd(20, 1, 9, api.OwnOpen), crowd(20, 40, 9, api.OwnClosed)} {
				answers(t, behind(7, slices.Concat([]api.Own{one}, gap, []api.Own{next})...), api.OK)
				answers(t, behind(7, slices.Concat([]api.Own{next}, gap, []api.Own{one})...), api.ErrAfter)
				answers(t, behind(7, slices.Concat(gap, []api.Own{one, next, next})...), api.OK)
				answers(t, behind(7, slices.Concat(gap, []api.Own{next, one, one})...), api.ErrAfter)
			}
		}
	}
}

// P12.1: MaxEach jobs of one user that are not closed are enough.
func TestAdmitUser(t *testing.T) {
	for user := range api.MaxUsers {
		for _, phase := range phases() {
			for many := range 20 {
				want := api.OK
				if many >= 16 && phase != api.OwnClosed {
					want = api.ErrUser
				}
				answers(t, among(user, crowd(1, many, user, phase)...), want)
			}
		}
	}
}

// P12.1: closed ones and those of others, wherever they stand, are not counted with them.
func TestAdmitUserAmongOthers(t *testing.T) {
	for user := range api.MaxUsers {
		other := (user + 1) % api.MaxUsers
		for _, many := range []int{14, 15, 16, 17} {
			want := api.OK
			if many >= 16 {
				want = api.ErrUser
			}
			for _, of := range []int{other, -1, 16, mostInt} {
				mine, closed, others := crowd(1, many, user, api.OwnGiven), crowd(100, 20, user, api.OwnClosed), crowd(200, 20, of, api.OwnOpen)
				answers(t, among(user, slices.Concat(mine, closed, others)...), want)
				answers(t, among(user, slices.Concat(closed, mine, others)...), want)
				answers(t, among(user, slices.Concat(others, closed, mine)...), want)
				answers(t, among(user, slices.Concat(others, mine[:8], closed, mine[8:])...), want)
			}
		}
	}
}

// P12.1: jobs in all phases count alike, whatever their cluster and number are.
func TestAdmitUserInAllPhases(t *testing.T) {
	var l []api.Own
	for i := range 16 {
		o := own(5, 3, 1+i%7, api.HowDone)
		o.Job.ID.At = i - 3
		l = append(l, o)
	}
	answers(t, among(3, l...), api.ErrUser)
	answers(t, among(4, l...), api.OK)
	for i := range l {
		was := l[i]
		l[i].Phase = api.OwnClosed
		answers(t, among(3, l...), api.OK)
		l[i] = was
		l[i].Job.User = 4
		answers(t, among(3, l...), api.OK)
		l[i] = was
		answers(t, among(3, l...), api.ErrUser)
	}
}

// P12.1: MaxOwns own jobs are enough, closed or not, whosever they are.
func TestAdmitFull(t *testing.T) {
	for _, many := range []int{0, 1, 62, 63, 64, 65, 66, 128, 5000} {
		want := api.OK
		if many >= 64 {
			want = api.ErrFull
		}
		answers(t, among(3, crowd(1, many, 3, api.OwnClosed)...), want)
		for _, phase := range phases() {
			answers(t, among(3, crowd(1, many, 9, phase)...), want)
			answers(t, among(3, crowd(1, many, -1, phase)...), want)
		}
		answers(t, among(3, make([]api.Own, many)...), want)
	}
}

// P12.1: as many as may be of each user, but for one, may be taken, one by one.
func TestAdmitOneByOne(t *testing.T) {
	var l []api.Own
	for n := range 200 {
		user := n % 4
		want := api.OK
		if n >= 64 {
			want = api.ErrUser
		}
		answers(t, among(user, l...), want)
		if want == api.OK {
			l = append(l, own(n+1, user, 1+n%7, 0))
		}
	}
	answers(t, among(5, l...), api.ErrFull)
	for i := range l {
		l[i].Phase = api.OwnClosed
	}
	answers(t, among(0, l...), api.ErrFull)
	answers(t, among(0, l[1:]...), api.OK)
}
