package queue_test

import (
	"math"
	"testing"

	"hanse/api"
)

// minusZero is the part that counts as 0.
var minusZero = math.Copysign(0, -1)

// noParts answers numbers that are no part of an amount.
func noParts() []float64 {
	return []float64{0.5, 1.5, 2.0000001, 1048575.5, math.SmallestNonzeroFloat64, -1, -2, -0.5, -math.SmallestNonzeroFloat64, 1048577, 1048576.5, 1 << 40, math.MaxFloat64, math.Inf(1), math.Inf(-1), math.NaN()}
}

// alike answers so many clusters of that amount.
func alike(many int, x complex128) []complex128 {
	caps := make([]complex128, many)
	for i := range caps {
		caps[i] = x
	}
	return caps
}

// upTo answers so many sites, from first on.
func upTo(first, many int) []int {
	var l []int
	for i := range many {
		l = append(l, first+i)
	}
	return l
}

// common answers what is taken: a job that needs some of each of three clusters out of five, beside some owns.
func common() ask {
	owns := []api.Own{
		{Job: api.Job{ID: api.ID{N: 1}, User: 3}, Phase: api.OwnOpen},
		{Job: api.Job{ID: api.ID{N: 2}, User: 4}, Phase: api.OwnClosed, How: api.HowDone},
		{Job: api.Job{ID: api.ID{N: 3}, User: 3}, Phase: api.OwnClosed, How: api.HowFailed},
	}
	j := api.Job{User: 3, Need: 3 + 2i, Wall: 10, Run: 8, Base: 5, Sites: []int{0, 2, 3}}
	return ask{[]complex128{8 + 4i, 1, 4 + 4i, 5 + 2i, 1}, 1, owns, j}
}

// with answers the common ask, turned by f.
func with(f func(a *ask)) ask {
	a := common()
	f(&a)
	return a
}

// P12.1: the chapter's example, and ordinary jobs.
func TestAdmit(t *testing.T) {
	caps := []complex128{4, 2}
	answers(t, ask{caps, 0, nil, api.Job{Need: 3, Wall: 1, Run: 1, Sites: []int{0, 1}}}, api.ErrFit)
	answers(t, ask{caps, 0, nil, api.Job{Need: 3, Wall: 1, Run: 1, Sites: []int{0}}}, api.OK)
	answers(t, common(), api.OK)
	answers(t, ask{alike(1, 1), 0, nil, api.Job{Need: 1, Wall: 1, Run: 1, Sites: []int{0}}}, api.OK)
	for me := range 5 {
		answers(t, with(func(a *ask) { a.me = me }), api.OK)
		answers(t, with(func(a *ask) { a.me, a.j.Pact = me, true }), api.OK)
		answers(t, with(func(a *ask) { a.me, a.j.After = me, 1 }), api.OK)
		answers(t, with(func(a *ask) { a.me, a.j.Sites, a.owns = me, []int{3}, nil }), api.OK)
	}
}

// P12.1: a job of zeros is none.
func TestAdmitNothing(t *testing.T) {
	answers(t, ask{alike(1, 1), 0, nil, api.Job{}}, api.ErrJob)
	answers(t, ask{}, api.ErrPeer)
}

// P12.1: 1 to MaxClusters clusters, and each of their places.
func TestAdmitPeer(t *testing.T) {
	j := api.Job{Need: 1, Wall: 1, Run: 1, Sites: []int{0}}
	for many := range 70 {
		caps := alike(many, 1)
		for me := -3; me < 73; me++ {
			want := api.ErrPeer
			if 1 <= many && many <= 64 && 0 <= me && me < many {
				want = api.OK
			}
			answers(t, ask{caps, me, nil, j}, want)
		}
		answers(t, ask{caps, leastInt, nil, j}, api.ErrPeer)
		answers(t, ask{caps, mostInt, nil, j}, api.ErrPeer)
	}
	answers(t, ask{nil, 0, nil, j}, api.ErrPeer)
	answers(t, ask{[]complex128{}, 0, nil, j}, api.ErrPeer)
	answers(t, ask{alike(1<<16, 1), 0, nil, j}, api.ErrPeer)
	answers(t, ask{alike(4, 1)[:2], 2, nil, j}, api.ErrPeer)
	answers(t, ask{alike(4, 1)[:0], 0, nil, j}, api.ErrPeer)
	answers(t, ask{alike(65, 1)[:64], 63, nil, j}, api.OK)
}

// P12.1: an ID is for the origin to give.
func TestAdmitID(t *testing.T) {
	for _, n := range []int{1, 2, -1, mostInt, leastInt} {
		for _, id := range []api.ID{{At: n}, {N: n}, {At: n, N: n}, {At: n, N: -n}} {
			answers(t, with(func(a *ask) { a.j.ID = id }), api.ErrJob)
		}
		answers(t, with(func(a *ask) { a.me, a.j.ID = 1, api.ID{At: 1} }), api.ErrJob)
	}
}

// P12.1: users from 0 to MaxUsers - 1, walltimes and runs from 1 on, bases from 0 to MaxBase.
func TestAdmitNumbers(t *testing.T) {
	for _, x := range []struct {
		set         func(j *api.Job, n int)
		least, most int
		above       api.Errno
	}{
		{func(j *api.Job, n int) { j.User = n }, 0, 15, api.ErrJob},
		{func(j *api.Job, n int) { j.Wall = n }, 1, 65536, api.ErrWall},
		{func(j *api.Job, n int) { j.Run = n }, 1, mostInt, api.OK},
		{func(j *api.Job, n int) { j.Base = n }, 0, 100, api.ErrJob},
	} {
		for _, n := range []int{x.least, x.least + 1, 7, x.most - 1, x.most} {
			answers(t, with(func(a *ask) { x.set(&a.j, n) }), api.OK)
		}
		for _, n := range []int{x.least - 1, x.least - 2, -5, -65536, -forever, leastInt + 1, leastInt} {
			answers(t, with(func(a *ask) { x.set(&a.j, n) }), api.ErrJob)
		}
		if x.above == api.OK {
			continue
		}
		for _, n := range []int{x.most + 1, x.most + 2, 2 * (x.most + 1), 1 << 20, forever, mostInt - 1, mostInt} {
			answers(t, with(func(a *ask) { x.set(&a.j, n) }), x.above)
		}
	}
}

// P12.1: each user, each base, and walltimes up to MaxWall.
func TestAdmitAllNumbers(t *testing.T) {
	for user := range api.MaxUsers {
		for base := range api.MaxBase + 1 {
			answers(t, with(func(a *ask) { a.j.User, a.j.Base = user, base }), api.OK)
		}
	}
	for wall := 1; wall <= api.MaxWall; wall++ {
		answers(t, with(func(a *ask) { a.j.Wall = wall }), api.OK)
	}
}

// P12.1: how long a job runs has no end, not by its walltime either.
func TestAdmitRun(t *testing.T) {
	for _, run := range []int{1, 9, 10, 11, 65535, 65536, 65537, 1 << 20, forever, forever + 1, mostInt} {
		for _, wall := range []int{1, 10, 65536} {
			answers(t, with(func(a *ask) { a.j.Run, a.j.Wall = run, wall }), api.OK)
		}
		answers(t, with(func(a *ask) { a.j.Run, a.j.Wall = run, 65537 }), api.ErrWall)
	}
}

// P12.1: a need is an amount.
func TestAdmitNeed(t *testing.T) {
	for _, p := range noParts() {
		for _, need := range []complex128{complex(p, 0), complex(p, 2), complex(1, p), complex(3, p), complex(p, p), complex(p, minusZero)} {
			answers(t, with(func(a *ask) { a.j.Need = need }), api.ErrJob)
			answers(t, with(func(a *ask) { a.j.Need, a.caps = need, alike(5, need) }), api.ErrJob)
		}
	}
	for _, need := range []complex128{1, 2, 3, 1 + 1i, 1 + 2i, 3 + 2i} {
		answers(t, with(func(a *ask) { a.j.Need = need }), api.OK)
	}
	for _, need := range []complex128{1, 1048576, 1 + 1048576i, 1048575 + 1048576i, 1048576 + 1048576i} {
		answers(t, with(func(a *ask) { a.j.Need, a.caps = need, alike(5, 1048576+1048576i) }), api.OK)
	}
}

// P12.1: a need of no node is none, whatever it needs of licences.
func TestAdmitNoNode(t *testing.T) {
	for _, lics := range []float64{0, minusZero, 1, 2, 1048576} {
		for _, nodes := range []float64{0, minusZero} {
			need := complex(nodes, lics)
			answers(t, with(func(a *ask) { a.j.Need = need }), api.ErrJob)
			answers(t, with(func(a *ask) { a.j.Need, a.caps = need, alike(5, 1048576+1048576i) }), api.ErrJob)
		}
	}
}

// R5: a part that is -0 counts as 0, in a need and in a cap.
func TestAdmitMinusZero(t *testing.T) {
	for _, nodes := range []float64{1, 3} {
		need := complex(nodes, minusZero)
		answers(t, with(func(a *ask) { a.j.Need = need }), api.OK)
		answers(t, with(func(a *ask) { a.j.Need, a.caps = need, alike(5, complex(nodes, 0)) }), api.OK)
		answers(t, with(func(a *ask) { a.j.Need, a.caps = need, alike(5, need) }), api.OK)
		answers(t, with(func(a *ask) { a.j.Need, a.caps = complex(nodes, 0), alike(5, need) }), api.OK)
		answers(t, with(func(a *ask) { a.j.Need, a.caps = complex(nodes, 1), alike(5, need) }), api.ErrFit)
		answers(t, with(func(a *ask) { a.j.Need, a.caps = need, alike(5, complex(minusZero, 9)) }), api.ErrFit)
	}
}

// P12.1: what a job waits for is no number below 0, whatever there is.
func TestAdmitAfterBelow(t *testing.T) {
	for _, after := range []int{-1, -2, -forever, leastInt} {
		own := api.Own{Job: api.Job{ID: api.ID{N: after}}, Phase: api.OwnClosed, How: api.HowDone}
		answers(t, with(func(a *ask) { a.j.After = after }), api.ErrJob)
		answers(t, with(func(a *ask) { a.j.After, a.owns = after, []api.Own{own} }), api.ErrJob)
	}
}

// P12.1: what no word of the chapter names makes no difference.
func TestAdmitLooksAtNothingElse(t *testing.T) {
	more := api.Own{Job: api.Job{ID: api.ID{At: 9, N: 9}, User: -7, Need: -1, Wall: -1, Run: -1, Base: -1, After: -9, Sites: []int{-1}, Pact: true}, Phase: 99, Holder: 99, Token: -1, Wish: true, How: -1, Round: -1, At: -1, Began: -1, Marks: []int{-1}, Offers: []api.Offer{{Site: -1}}, Parts: []api.Part{{Site: -1}}}
	for _, many := range []int{1, 17, 60} {
		for range many {
			more.Job.ID.N++
			answers(t, with(func(a *ask) { a.owns = append(a.owns, more) }), api.OK)
		}
		answers(t, with(func(a *ask) {
			for range many {
				a.owns = append(a.owns, more)
			}
		}), api.OK)
	}
}
