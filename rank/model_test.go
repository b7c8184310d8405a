package rank_test

import (
	"slices"
	"testing"

	"hanse/api"
	"hanse/rank"
)

const (
	half     = api.HalfLife
	most     = 1 << 60 // of a sum
	forever  = api.Forever
	leastInt = -1 << 63
	mostInt  = 1<<63 - 1
)

func use(user, sum, at int) api.Use {
	return api.Use{User: user, Sum: sum, At: at}
}

func of(at, n, user, base, since int) api.Copy {
	return api.Copy{Job: api.Job{ID: api.ID{At: at, N: n}, User: user, Base: base}, Since: since}
}

// left is what is left of a sum: it is halved at each multiple of HalfLife behind at, up to now.
func left(sum, at, now int) int {
	for m := at - at%half + half; m <= now && sum > 0; m += half {
		sum = (sum - sum%2) / 2
	}
	return sum
}

func isTick(t int) bool {
	return t >= 0 && t <= forever
}

// fine tells whether uses are right.
func fine(uses []api.Use) bool {
	for i, u := range uses {
		if u.User < 0 || u.User > 15 || u.Sum < 0 || u.Sum > most || !isTick(u.At) {
			return false
		}
		if i > 0 && uses[i-1].User >= u.User {
			return false
		}
	}
	return true
}

// charged is what Charge answers.
func charged(uses []api.Use, user, sum, now int) ([]api.Use, api.Errno) {
	switch {
	case !fine(uses):
		return nil, api.ErrState
	case user < 0 || user > 15:
		return nil, api.ErrUser
	case sum < 0 || sum > most:
		return nil, api.ErrAmount
	case !isTick(now):
		return nil, api.ErrTick
	}
	by := map[int]api.Use{}
	for _, u := range uses {
		by[u.User] = u
	}
	if was, there := by[user]; there {
		sum += left(was.Sum, was.At, now)
	}
	if sum > most {
		sum = most
	}
	by[user] = use(user, sum, now)
	var l []api.Use
	for u := range 16 {
		if x, there := by[u]; there {
			l = append(l, x)
		}
	}
	return l, api.OK
}

// points is what Of answers.
func points(c api.Copy, uses []api.Use, now int) int {
	base := c.Job.Base
	if base < 0 {
		base = 0
	}
	if base > 100 {
		base = 100
	}
	n := base * 4096
	if !isTick(now) {
		return n
	}
	if isTick(c.Since) && now > c.Since {
		if now-c.Since < 4096 {
			n += now - c.Since
		} else {
			n += 4096
		}
	}
	if !fine(uses) {
		return n
	}
	for _, u := range uses {
		if u.User != c.Job.User {
			continue
		}
		if s := left(u.Sum, u.At, now) / 64; s < 4096 {
			n -= s
		} else {
			n -= 4096
		}
	}
	return n
}

// ordered is what Order answers: each place stands behind as many as are ahead of it.
func ordered(copies []api.Copy, uses []api.Use, now int) []int {
	keys := make([][]int, len(copies))
	for i, c := range copies {
		keys[i] = []int{-points(c, uses, now), c.Since, c.Job.ID.At, c.Job.ID.N, i}
	}
	l := make([]int, len(copies))
	for i := range keys {
		ahead := 0
		for k := range keys {
			if slices.Compare(keys[k], keys[i]) < 0 {
				ahead++
			}
		}
		l[ahead] = i
	}
	return l
}

// dice answers a roll of numbers from 0 on, below n, that hang on the seed.
func dice(seed uint64) func(n int) int {
	return func(n int) int {
		seed = seed*6364136223846793005 + 1442695040888963407
		return int(seed >> 33 % uint64(n))
	}
}

// pick answers one of some.
func pick(roll func(n int) int, l ...int) int {
	return l[roll(len(l))]
}

// someTick answers a tick, mostly one near a half-life.
func someTick(roll func(n int) int) int {
	return pick(roll, roll(5*half), roll(5)*half+roll(3), max(roll(5)*half-1, 0), roll(100)*half, 0, forever-roll(2), forever-roll(3*half))
}

// someSum answers what may have been used.
func someSum(roll func(n int) int) int {
	return pick(roll, roll(10), roll(5000), 64*roll(9000)+roll(3), most-roll(3), most>>roll(60))
}

// someUses answers uses that are right, mostly.
func someUses(roll func(n int) int) []api.Use {
	var l []api.Use
	some := 1 + roll(6)
	for user := range 16 {
		if roll(some) == 0 {
			l = append(l, use(user, someSum(roll), someTick(roll)))
		}
	}
	if len(l) == 0 || roll(12) > 0 {
		return l
	}
	u := &l[roll(len(l))]
	switch roll(3) {
	case 0:
		u.User = pick(roll, -1, 16, roll(16))
	case 1:
		u.Sum = pick(roll, -1, most+1, roll(9))
	case 2:
		u.At = pick(roll, -1, forever+1, roll(9))
	}
	return l
}

// someCopies answers so many copies, many of them alike in much.
func someCopies(roll func(n int) int, many int) []api.Copy {
	var l []api.Copy
	for range many {
		since := pick(roll, roll(3), roll(5*half), roll(5)*half, someTick(roll), roll(4), -1-roll(2), forever+1+roll(2))
		l = append(l, of(roll(3), roll(3), pick(roll, roll(16), roll(3), -1, 16), pick(roll, roll(3), roll(103), -1, 100), since))
	}
	return l
}

// P11.1: sums at ticks as the model has them.
func TestDecayedAsTheModel(t *testing.T) {
	roll := dice(1)
	for range 20000 {
		u := use(roll(16), someSum(roll), someTick(roll))
		now := someTick(roll)
		decays(t, u, now, left(u.Sum, u.At, now))
	}
}

// P11.2: charge upon charge as the model has them.
func TestChargeAsTheModel(t *testing.T) {
	for seed := range uint64(2000) {
		roll := dice(seed)
		uses := someUses(roll)
		for range 30 {
			user, sum, now := roll(16), someSum(roll), someTick(roll)
			switch roll(20) {
			case 0:
				user = pick(roll, -1, 16)
			case 1:
				sum = pick(roll, -1, most+1)
			case 2:
				now = pick(roll, -1, forever+1)
			}
			want, e := charged(uses, user, sum, now)
			if e != api.OK {
				refuses(t, e, uses, user, sum, now)
				continue
			}
			charges(t, uses, user, sum, now, want...)
			uses = want
		}
	}
}

// P11.3: ranks as the model has them.
func TestOfAsTheModel(t *testing.T) {
	for seed := range uint64(3000) {
		roll := dice(seed)
		uses := someUses(roll)
		now := pick(roll, someTick(roll), someTick(roll), someTick(roll), -1, forever+1)
		for _, c := range someCopies(roll, 20) {
			is(t, c, uses, now, points(c, uses, now))
		}
	}
}

// P11.4: orders as the model has them.
func TestOrderAsTheModel(t *testing.T) {
	for seed := range uint64(3000) {
		roll := dice(seed)
		copies, uses := someCopies(roll, roll(40)), someUses(roll)
		now := pick(roll, someTick(roll), someTick(roll), someTick(roll), roll(4), -1, forever+1)
		stand(t, copies, uses, now, ordered(copies, uses, now)...)
	}
}

// P11.4, R3: the order goes by the ranks that Of answers.
func TestOrderGoesByOf(t *testing.T) {
	for seed := range uint64(500) {
		roll := dice(seed)
		copies, uses, now := someCopies(roll, 30), someUses(roll), someTick(roll)
		l := rank.Order(copies, uses, now)
		if len(l) != len(copies) {
			t.Fatalf("%d places of %d", len(l), len(copies))
		}
		for i := range l[1:] {
			if one, next := rank.Of(copies[l[i]], uses, now), rank.Of(copies[l[i+1]], uses, now); one < next {
				t.Fatalf("%d ahead of %d", one, next)
			}
		}
	}
}
