package queue_test

import (
	"math"
	"slices"
	"testing"

	"hanse/api"
	"hanse/queue"
	"hanse/rank"
)

const (
	forever  = api.Forever
	leastInt = -1 << 63
	mostInt  = 1<<63 - 1
)

// ask is what Admit is handed.
type ask struct {
	caps []complex128
	me   int
	owns []api.Own
	j    api.Job
}

// isAmount tells whether x is one, part by part.
func isAmount(x complex128) bool {
	for _, p := range []float64{real(x), imag(x)} {
		if math.IsNaN(p) || p < 0 || p > 1048576 || p != float64(int(p)) {
			return false
		}
	}
	return true
}

// isPlace tells whether at is one of so many places.
func isPlace(at, many int) bool {
	return at >= 0 && at < many
}

// faults answers all errors whose words hold, in the chapter's order.
func faults(a ask) []api.Errno {
	var l []api.Errno
	for _, x := range []struct {
		fault bool
		e     api.Errno
	}{
		{len(a.caps) < 1 || len(a.caps) > 64 || !isPlace(a.me, len(a.caps)), api.ErrPeer},
		{wrongJob(a.j), api.ErrJob},
		{a.j.Wall > 65536, api.ErrWall},
		{wrongSites(a), api.ErrSites},
		{tooGreat(a), api.ErrFit},
		{wrongAfter(a), api.ErrAfter},
		{16 <= busyOf(a), api.ErrUser},
		{64 <= len(a.owns), api.ErrFull},
	} {
		if x.fault {
			l = append(l, x.e)
		}
	}
	return l
}

func wrongJob(j api.Job) bool {
	switch {
	case j.ID.At != 0, j.ID.N != 0:
		return true
	case j.User < 0, j.User > 15:
		return true
	case !isAmount(j.Need), real(j.Need) == 0:
		return true
	case j.Wall < 1, j.Run < 1:
		return true
	case j.Base < 0, j.Base > 100:
		return true
	}
	return j.After < 0
}

func wrongSites(a ask) bool {
	n := len(a.j.Sites)
	if n == 0 || n > 8 || n == 1 && a.j.Pact {
		return true
	}
	for i, site := range a.j.Sites {
		if !isPlace(site, len(a.caps)) {
			return true
		}
		for _, ahead := range a.j.Sites[:i] {
			if ahead >= site {
				return true
			}
		}
	}
	return false
}

func tooGreat(a ask) bool {
	for _, site := range a.j.Sites {
		if !isPlace(site, len(a.caps)) {
			continue
		}
		need, x := a.j.Need, a.caps[site]
		if !isAmount(need) || !isAmount(x) || real(need) > real(x) || imag(need) > imag(x) {
			return true
		}
	}
	return false
}

func wrongAfter(a ask) bool {
	if a.j.After == 0 {
		return false
	}
	for _, o := range a.owns {
		if o.Job.ID.N == a.j.After {
			return o.Phase == api.OwnClosed && o.How != api.HowDone
		}
	}
	return true
}

func busyOf(a ask) int {
	n := 0
	for _, o := range a.owns {
		if o.Job.User == a.j.User && o.Phase != api.OwnClosed {
			n++
		}
	}
	return n
}

// readied is what Ready answers: each place stands behind as many as are ahead of it.
func readied(copies []api.Copy, uses []api.Use, now int) []int {
	keys := map[int][]int{}
	for i, c := range copies {
		if c.Job.Pact {
			continue
		}
		if c.St == api.CopyQueued || c.St == api.CopyLocked {
			keys[i] = []int{-rank.Of(c, uses, now), c.Since, c.Job.ID.At, c.Job.ID.N, i}
		}
	}
	l := make([]int, len(keys))
	for i := range keys {
		ahead := 0
		for k := range keys {
			if slices.Compare(keys[k], keys[i]) < 0 {
				ahead++
			}
		}
		l[ahead] = i
	}
	return l
}

// answers tells a fault, unless Admit answers this.
func answers(t *testing.T, a ask, want api.Errno) {
	t.Helper()
	if got := queue.Admit(a.caps, a.me, a.owns, a.j); got != want {
		t.Errorf("Admit(%v, %d, %d owns, %+v) = %d, want %d", a.caps, a.me, len(a.owns), a.j, got, want)
	}
}

// stand tells a fault, unless just these copies are ready, in this order.
func stand(t *testing.T, copies []api.Copy, uses []api.Use, now int, want ...int) {
	t.Helper()
	if got := queue.Ready(copies, uses, now); !slices.Equal(got, want) {
		t.Errorf("Ready(%v, %v, %d) = %v, want %v", copies, uses, now, got, want)
	}
}

// asModelled tells a fault, unless Admit answers what the model does, and answers that.
func asModelled(t *testing.T, a ask) api.Errno {
	t.Helper()
	want := api.OK
	if l := faults(a); len(l) > 0 {
		want = l[0]
	}
	answers(t, a, want)
	return want
}

// dice answers a roll of numbers from 0 on, below n, that hang on the seed.
func dice(seed uint64) func(n int) int {
	return func(n int) int {
		seed = seed*6364136223846793005 + 1442695040888963407
		return int(seed >> 33 % uint64(n))
	}
}

// pick answers one of some.
func pick[T any](roll func(n int) int, l ...T) T {
	return l[roll(len(l))]
}

// someOwns answers owns of few users and numbers, in many phases, about as many as may be, or few.
func someOwns(roll func(n int) int) []api.Own {
	many := pick(roll, roll(10), roll(10), roll(66), 62+roll(4))
	users := pick(roll, 1, 4, 4, 16, 16)
	var l []api.Own
	for range many {
		o := api.Own{Job: api.Job{ID: api.ID{At: roll(3), N: 1 + roll(40)}, User: roll(users)}, How: roll(6)}
		o.Phase = pick(roll, api.OwnClosed, 1+roll(8), 1+roll(8))
		l = append(l, o)
	}
	return l
}

// someSites answers sites that rise, as many as there is room for.
func someSites(roll func(n int) int, clusters int) []int {
	var l []int
	for site := roll(3); site < clusters && len(l) < 8; site += 1 + roll(3) {
		l = append(l, site)
	}
	return l
}

// someAsk answers what may be taken, mostly.
func someAsk(roll func(n int) int) ask {
	clusters := pick(roll, 1+roll(4), 1+roll(9), 64-roll(3))
	caps := make([]complex128, clusters)
	for i := range caps {
		caps[i] = complex(float64(4+roll(6)), float64(2+roll(4)))
	}
	return ask{caps, roll(clusters), someOwns(roll), api.Job{
		User:  pick(roll, roll(16), roll(2)),
		Need:  complex(float64(1+roll(5)), float64(roll(4))),
		Wall:  pick(roll, 1+roll(9), 65536-roll(2)),
		Run:   pick(roll, 1+roll(9), mostInt),
		Base:  pick(roll, roll(101), 0, 100),
		After: pick(roll, 0, 0, 0, 1+roll(40)),
		Sites: someSites(roll, clusters),
		Pact:  roll(3) == 0,
	}}
}

// oddParts answers numbers of which no part of an amount can be made, and some of which one can.
func oddParts() []float64 {
	return []float64{-1, 0.5, 1048577, math.NaN(), math.Inf(1), math.Inf(-1), 1e300, -1e-300, math.Copysign(0, -1), 0, 1, 5, 1048576}
}

// twist makes one thing in an ask otherwise, for worse, mostly.
func twist(roll func(n int) int, a *ask) {
	ends := []int{leastInt, -1, 0, mostInt}
	odd := complex(pick(roll, oddParts()...), pick(roll, oddParts()...))
	switch roll(14) {
	case 0:
		a.me = pick(roll, append(ends, len(a.caps), len(a.caps)-1)...)
	case 1:
		a.caps = append(a.caps, make([]complex128, roll(70))...)
	case 2:
		a.caps = a.caps[:roll(2)]
	case 3:
		if len(a.caps) > 0 {
			a.caps[roll(len(a.caps))] = odd
		}
	case 4:
		a.j.ID.At = pick(roll, append(ends, 1)...)
	case 5:
		a.j.ID.N = pick(roll, append(ends, 1)...)
	case 6:
		a.j.User = pick(roll, append(ends, 15, 16)...)
	case 7:
		a.j.Need = odd
	case 8:
		a.j.Wall = pick(roll, append(ends, 65536, 65537)...)
	case 9:
		a.j.Run = pick(roll, append(ends, 65536, 65537)...)
	case 10:
		a.j.Base = pick(roll, append(ends, 100, 101)...)
	case 11:
		a.j.After = pick(roll, append(ends, 1+roll(40))...)
	case 12:
		a.j.Sites = append(a.j.Sites, pick(roll, append(ends, len(a.caps), len(a.caps)-1, roll(9))...))
	case 13:
		if len(a.j.Sites) > 0 {
			a.j.Sites[roll(len(a.j.Sites))] = pick(roll, append(ends, len(a.caps), roll(9))...)
		}
	}
}

// P12.1: asks that may be taken, and such with some things otherwise, as the model has them, each answer often enough.
func TestAdmitAsTheModel(t *testing.T) {
	told := map[api.Errno]int{}
	for seed := range uint64(60000) {
		roll := dice(seed)
		a := someAsk(roll)
		for range max(roll(5)-1, 0) {
			twist(roll, &a)
		}
		told[asModelled(t, a)]++
	}
	for _, e := range []api.Errno{api.OK, api.ErrPeer, api.ErrJob, api.ErrWall, api.ErrSites, api.ErrFit, api.ErrAfter, api.ErrUser, api.ErrFull} {
		if told[e] < 200 {
			t.Errorf("%d is told %d times", e, told[e])
		}
	}
}

// someUses answers uses that are right, mostly.
func someUses(roll func(n int) int) []api.Use {
	var l []api.Use
	for user := range 16 {
		if roll(4) == 0 {
			l = append(l, api.Use{User: user, Sum: pick(roll, 64*roll(9000), 1<<60, roll(9)), At: roll(6000)})
		}
	}
	if len(l) > 0 && roll(8) == 0 {
		l[roll(len(l))] = pick(roll, api.Use{User: 16}, api.Use{User: -1}, api.Use{Sum: -1}, api.Use{Sum: 1<<60 + 1}, api.Use{At: -1}, api.Use{At: forever + 1})
	}
	return l
}

// someCopies answers so many copies, many of them alike in much, of all states and some that are none.
func someCopies(roll func(n int) int, many int) []api.Copy {
	var l []api.Copy
	for range many {
		c := api.Copy{Job: api.Job{ID: api.ID{At: roll(3), N: roll(3)}, User: pick(roll, roll(16), roll(3), -1, 16)}}
		c.Job.Base = pick(roll, roll(3), roll(103), -1)
		c.Job.Pact = roll(4) == 0
		c.Since = pick(roll, roll(3), roll(6000), 1024*roll(5), -1, forever+1)
		c.St = pick(roll, api.CopyQueued, api.CopyLocked, roll(9), roll(9)-1, leastInt, mostInt)
		c.Low, c.Token, c.At, c.How, c.End = roll(3), roll(3), roll(9), roll(6), roll(9)
		l = append(l, c)
	}
	return l
}

// P12.2: copies as the model has them.
func TestReadyAsTheModel(t *testing.T) {
	for seed := range uint64(4000) {
		roll := dice(seed)
		copies, uses := someCopies(roll, roll(40)), someUses(roll)
		now := pick(roll, roll(4), roll(9000), 1024*roll(9), forever-roll(3), forever+1, -1, leastInt, mostInt)
		stand(t, copies, uses, now, readied(copies, uses, now)...)
	}
}
