package profile_test

import (
	"math"
	"reflect"
	"slices"
	"testing"

	"hanse/api"
	"hanse/profile"
)

const (
	great    = api.MaxAmount
	forever  = api.Forever
	leastInt = -1 << 63
	mostInt  = 1<<63 - 1
)

// zero is -0, which no constant is.
func zero() float64 {
	return math.Copysign(0, -1)
}

// noAmounts holds what is wrong in either part, beside a part that is right and one that is not.
func noAmounts() []complex128 {
	var l []complex128
	for _, no := range []float64{-1, -0.5, 0.5, 1.5, great - 0.5, great + 0.5, great + 1, -great, 1 << 40, 1e300, -1e300, math.SmallestNonzeroFloat64, math.NaN(), math.Inf(1), math.Inf(-1)} {
		for _, part := range []float64{0, 1, great, zero(), no} {
			l = append(l, complex(no, part), complex(part, no))
		}
	}
	return l
}

// noSpans holds spans that are not right.
func noSpans() []api.Span {
	return []api.Span{
		{From: 0, To: 0}, {From: 5, To: 5}, {From: forever, To: forever}, {From: -3, To: -3}, {From: forever - 1, To: forever - 1},
		{From: 1, To: 0}, {From: 6, To: 5}, {From: forever, To: 0}, {From: forever, To: forever - 1}, {From: mostInt, To: leastInt},
		{From: -1, To: 5}, {From: -1, To: 0}, {From: leastInt, To: 5}, {From: leastInt, To: mostInt}, {From: -1, To: forever + 1}, {From: -forever, To: forever},
		{From: 0, To: forever + 1}, {From: 5, To: mostInt}, {From: forever, To: forever + 1}, {From: forever - 1, To: forever + 1}, {From: forever + 1, To: forever + 2},
		{From: 5, To: -1}, {From: 0, To: leastInt}, {From: mostInt, To: mostInt}, {From: leastInt, To: leastInt}, {From: leastInt, To: leastInt + 1},
	}
}

func busy(from, to int, need complex128) api.Busy {
	return api.Busy{From: from, To: to, Need: need}
}

func step(at int, free complex128) api.Step {
	return api.Step{At: at, Free: free}
}

// made answers a profile, which must come about.
func made(t *testing.T, cap complex128, l ...api.Busy) *profile.Profile {
	t.Helper()
	p, e := profile.New(cap, l...)
	if e != api.OK || p == nil {
		t.Fatalf("New(%v, %v): %d", cap, l, e)
	}
	return p
}

// unmade tells a fault, unless New answers that error, and no profile.
func unmade(t *testing.T, want api.Errno, cap complex128, l ...api.Busy) {
	t.Helper()
	if p, e := profile.New(cap, l...); e != want || p != nil {
		t.Errorf("New(%v, %v): %d, want %d and no profile", cap, l, e, want)
	}
}

// shows tells a fault, unless the profile has just these steps.
func shows(t *testing.T, p *profile.Profile, want ...api.Step) {
	t.Helper()
	if got := p.Steps(); !slices.Equal(got, want) {
		t.Errorf("Steps: %v, want %v", got, want)
	}
}

// takes tells a fault, unless Take and Fits answer so.
func takes(t *testing.T, p *profile.Profile, b api.Busy, want api.Errno) {
	t.Helper()
	if p.Fits(b) != (want == api.OK) {
		t.Errorf("Fits(%v) is %v", b, want != api.OK)
	}
	if e := p.Take(b); e != want {
		t.Errorf("Take(%v): %d, want %d", b, e, want)
	}
}

// gives tells a fault, unless Give answers so.
func gives(t *testing.T, p *profile.Profile, b api.Busy, want api.Errno) {
	t.Helper()
	if e := p.Give(b); e != want {
		t.Errorf("Give(%v): %d, want %d", b, e, want)
	}
}

// found is what Earliest answers.
type found struct {
	at int
	is bool
}

// told is what a profile tells by all its calls that change nothing.
type told struct {
	steps    []api.Step
	free     []complex128
	fits     []bool
	earliest []found
}

// tell asks a profile all that the tests look at.
func tell(p *profile.Profile) told {
	w := told{steps: p.Steps()}
	ticks := []int{leastInt, -1, 0, 1, 2, 3, 4, 5, 6, 7, 8, 9, 10, 11, 12, 20, 1 << 30, forever - 2, forever - 1, forever, forever + 1, mostInt}
	for _, at := range ticks {
		w.free = append(w.free, p.At(at))
	}
	for _, need := range []complex128{0, 1, 2, 3, 1i, 1 + 1i, 3 + 1i, 3 + 2i} {
		for _, from := range []int{0, 3, 4, 5, 8, 9, 11, forever - 2} {
			for _, dur := range []int{1, 2, 4, 7, forever - 9, forever} {
				w.fits = append(w.fits, p.Fits(busy(from, from+dur, need)))
				at, is := p.Earliest(need, dur, from)
				w.earliest = append(w.earliest, found{at, is})
			}
		}
	}
	return w
}

// stays answers what tells a fault, unless the profile tells then what it tells now.
func stays(t *testing.T, p *profile.Profile) func(what string) {
	t.Helper()
	was := tell(p)
	return func(what string) {
		t.Helper()
		if !reflect.DeepEqual(tell(p), was) {
			t.Errorf("%s changed what the profile tells: %v, was %v", what, p.Steps(), was.steps)
		}
	}
}

// P8.1: all of cap is free at each tick.
func TestNewIsAllFree(t *testing.T) {
	for _, cap := range []complex128{0, 1, 1i, 3 + 1i, great, great * 1i, great + great*1i, complex(zero(), zero()), complex(zero(), 4), complex(4, zero())} {
		p := made(t, cap)
		shows(t, p, step(0, cap))
		shows(t, made(t, cap, []api.Busy{}...), step(0, cap))
		for _, at := range []int{0, 1, 77, 1 << 20, 1 << 39, forever - 2, forever - 1} {
			if p.At(at) != cap {
				t.Errorf("New(%v): at %d %v is free", cap, at, p.At(at))
			}
		}
		takes(t, p, busy(0, forever, cap), api.OK)
		shows(t, p, step(0, 0))
	}
}

// P8.1: what is no amount is refused, whatever is to be taken.
func TestNewOfNoAmount(t *testing.T) {
	for _, cap := range noAmounts() {
		unmade(t, api.ErrAmount, cap)
		unmade(t, api.ErrAmount, cap, busy(0, 5, 0))
		unmade(t, api.ErrAmount, cap, busy(5, 5, 0))
		unmade(t, api.ErrAmount, cap, busy(0, 5, 9))
	}
}

// P8.1: each of the list is taken.
func TestNewTakes(t *testing.T) {
	shows(t, made(t, 3+1i, busy(5, 9, 2)), step(0, 3+1i), step(5, 1+1i), step(9, 3+1i))
	shows(t, made(t, 3+1i, busy(8, forever, 1i), busy(5, 9, 2), busy(0, 6, 1)), step(0, 2+1i), step(5, 1i), step(6, 1+1i), step(8, 1), step(9, 3))
	shows(t, made(t, 3, busy(0, 1, 1), busy(0, 1, 1), busy(0, 1, 1)), step(0, 0), step(1, 3))
	shows(t, made(t, great+great*1i, busy(0, forever, great), busy(0, forever, great*1i)), step(0, 0))
	shows(t, made(t, 2, busy(3, 4, 0), busy(0, forever, complex(zero(), 0))), step(0, 2))
	shows(t, made(t, 0, busy(3, 4, 0)), step(0, 0))
}

// P8.1: Take's errors, of the first one in the list that has any.
func TestNewErrors(t *testing.T) {
	fits, span, need, room := busy(0, 5, 2), busy(6, 6, 1), busy(6, 7, 0.5), busy(4, 6, 1)
	unmade(t, api.ErrRoom, 2, fits, room)
	unmade(t, api.ErrRoom, 2, busy(0, 1, 3))
	unmade(t, api.ErrRoom, 2, busy(0, 1, 1i))
	unmade(t, api.ErrRoom, 0, busy(forever-1, forever, 1))
	unmade(t, api.ErrSpan, 2, span)
	unmade(t, api.ErrAmount, 2, need)
	for _, first := range [][]api.Busy{{fits}, {fits, busy(5, 9, 2), busy(9, forever, 1)}} {
		for _, x := range []struct {
			b    api.Busy
			want api.Errno
		}{{span, api.ErrSpan}, {need, api.ErrAmount}, {room, api.ErrRoom}} {
			for _, behind := range []api.Busy{fits, span, need, room, busy(20, 21, 0)} {
				unmade(t, x.want, 2, append(slices.Clone(first), x.b, behind)...)
			}
		}
	}
	shows(t, made(t, 2, fits, busy(5, 6, 2)), step(0, 0), step(6, 2))
}

// P8.2: what is taken is free no more at the ticks of its span, and at these alone.
func TestTake(t *testing.T) {
	p := made(t, 3+2i)
	takes(t, p, busy(5, 9, 2), api.OK)
	shows(t, p, step(0, 3+2i), step(5, 1+2i), step(9, 3+2i))
	takes(t, p, busy(9, 12, 3+2i), api.OK)
	shows(t, p, step(0, 3+2i), step(5, 1+2i), step(9, 0), step(12, 3+2i))
	takes(t, p, busy(0, 1, 1i), api.OK)
	takes(t, p, busy(forever-1, forever, 3), api.OK)
	shows(t, p, step(0, 3+1i), step(1, 3+2i), step(5, 1+2i), step(9, 0), step(12, 3+2i), step(forever-1, 2i))
	takes(t, p, busy(4, 8, 1+1i), api.OK)
	shows(t, p, step(0, 3+1i), step(1, 3+2i), step(4, 2+1i), step(5, 1i), step(8, 1+2i), step(9, 0), step(12, 3+2i), step(forever-1, 2i))
	takes(t, p, busy(12, forever, 2i), api.OK)
	shows(t, p, step(0, 3+1i), step(1, 3+2i), step(4, 2+1i), step(5, 1i), step(8, 1+2i), step(9, 0), step(12, 3), step(forever-1, 0))
}

// P8.2, P8.4: nothing is there to take, to give or to place in a span that is not right, whatever is needed.
func TestWrongSpans(t *testing.T) {
	p := made(t, 3+1i, busy(5, 9, 2), busy(20, forever, 1))
	now := stays(t, p)
	for _, s := range noSpans() {
		for _, need := range []complex128{0, 1, 1i, 99, 0.5, -1, complex(math.NaN(), 0)} {
			takes(t, p, busy(s.From, s.To, need), api.ErrSpan)
			gives(t, p, busy(s.From, s.To, need), api.ErrSpan)
			unmade(t, api.ErrSpan, 3, busy(s.From, s.To, need))
		}
	}
	now("a wrong span")
}

// P8.2: what is no amount is taken and given by nobody, whether there is room or not.
func TestWrongNeeds(t *testing.T) {
	p := made(t, 3+1i, busy(5, 9, 3+1i))
	now := stays(t, p)
	for _, need := range noAmounts() {
		for _, s := range []api.Span{{From: 0, To: 5}, {From: 5, To: 9}, {From: 0, To: forever}, {From: forever - 1, To: forever}} {
			takes(t, p, busy(s.From, s.To, need), api.ErrAmount)
			gives(t, p, busy(s.From, s.To, need), api.ErrAmount)
		}
	}
	now("a wrong need")
}

// P8.2: spans at the edges of the ticks.
func TestEdgeSpans(t *testing.T) {
	for _, x := range []struct {
		from, to int
		want     []api.Step
	}{
		{0, 1, []api.Step{step(0, 1i), step(1, 2+1i)}},
		{0, forever, []api.Step{step(0, 1i)}},
		{1, forever, []api.Step{step(0, 2+1i), step(1, 1i)}},
		{0, forever - 1, []api.Step{step(0, 1i), step(forever-1, 2+1i)}},
		{forever - 1, forever, []api.Step{step(0, 2+1i), step(forever-1, 1i)}},
		{forever - 2, forever - 1, []api.Step{step(0, 2+1i), step(forever-2, 1i), step(forever-1, 2+1i)}},
	} {
		p := made(t, 2+1i)
		takes(t, p, busy(x.from, x.to, 2), api.OK)
		shows(t, p, x.want...)
		takes(t, p, busy(x.from, x.to, 1), api.ErrRoom)
		gives(t, p, busy(x.from, x.to, 2), api.OK)
		shows(t, p, step(0, 2+1i))
		gives(t, p, busy(x.from, x.to, 1), api.ErrRoom)
		gives(t, p, busy(x.from, x.to, 0), api.OK)
		shows(t, p, step(0, 2+1i))
	}
}

// P8.2: needs at the edges of what is free, and of what is not: each part is held against its own.
func TestEdgeNeeds(t *testing.T) {
	for _, x := range []struct {
		need       complex128
		take, give api.Errno
	}{
		{0, api.OK, api.OK}, {complex(zero(), zero()), api.OK, api.OK}, {complex(zero(), 2), api.OK, api.OK}, {complex(2, zero()), api.OK, api.OK},
		{1, api.OK, api.OK}, {1i, api.OK, api.OK}, {2 + 2i, api.OK, api.OK}, {3 + 2i, api.OK, api.ErrRoom}, {3, api.OK, api.ErrRoom}, {complex(3, zero()), api.OK, api.ErrRoom},
		{4, api.ErrRoom, api.ErrRoom}, {4 + 2i, api.ErrRoom, api.ErrRoom}, {4 + 1i, api.ErrRoom, api.ErrRoom}, {2 + 4i, api.ErrRoom, api.ErrRoom},
		{3i, api.ErrRoom, api.OK}, {2 + 3i, api.ErrRoom, api.OK}, {3 + 3i, api.ErrRoom, api.ErrRoom}, {4i, api.ErrRoom, api.ErrRoom},
		{great, api.ErrRoom, api.ErrRoom}, {great * 1i, api.ErrRoom, api.ErrRoom}, {great + great*1i, api.ErrRoom, api.ErrRoom},
	} {
		p := made(t, 5+5i, busy(2, 8, 2+3i))
		now := stays(t, p)
		takes(t, p.Twin(), busy(2, 8, x.need), x.take)
		gives(t, p.Twin(), busy(2, 8, x.need), x.give)
		if p.Take(busy(2, 8, x.need)) == api.OK {
			free(t, p, 5+5i, 3+2i-x.need, 3+2i-x.need, 5+5i)
			gives(t, p, busy(2, 8, x.need), api.OK)
		}
		now("what was taken and given back")
		if p.Give(busy(2, 8, x.need)) == api.OK {
			free(t, p, 5+5i, 3+2i+x.need, 3+2i+x.need, 5+5i)
			takes(t, p, busy(2, 8, x.need), api.OK)
		}
		now("what was given and taken back")
	}
}

// free tells a fault, unless so much is free at 1, 2, 7 and 8.
func free(t *testing.T, p *profile.Profile, want ...complex128) {
	t.Helper()
	if got := []complex128{p.At(1), p.At(2), p.At(7), p.At(8)}; !slices.Equal(got, want) {
		t.Errorf("%v is free, want %v", got, want)
	}
}

// P8.2: a span over many steps is asked at each of its ticks, and at none beside it.
func TestEveryTickIsAsked(t *testing.T) {
	const first, last = 3, 12
	for tight := first - 2; tight <= last+2; tight++ {
		p := made(t, 9+9i)
		for at := range 16 {
			takes(t, p, busy(at, at+1, complex(float64(at%3), float64(at%2))), api.OK)
		}
		takes(t, p, busy(tight, tight+1, 6), api.OK)
		q := p.Twin()
		now := stays(t, p)
		want := api.OK
		if first <= tight && tight < last {
			want = api.ErrRoom
		}
		takes(t, q, busy(first, last, 4), want)
		if want != api.OK {
			shows(t, q, p.Steps()...)
			takes(t, q, busy(first, tight, 4), map[bool]api.Errno{true: api.OK, false: api.ErrSpan}[first < tight])
			takes(t, q, busy(tight+1, last, 4), map[bool]api.Errno{true: api.OK, false: api.ErrSpan}[tight+1 < last])
		}
		now("what a twin took")
	}
}

// P8.2: what is given back is free, where nowhere in its span more would be free than there is.
func TestGive(t *testing.T) {
	p := made(t, 3+2i, busy(5, 9, 2+1i))
	gives(t, p, busy(6, 8, 1), api.OK)
	shows(t, p, step(0, 3+2i), step(5, 1+1i), step(6, 2+1i), step(8, 1+1i), step(9, 3+2i))
	gives(t, p, busy(5, 6, 2+1i), api.OK)
	shows(t, p, step(0, 3+2i), step(6, 2+1i), step(8, 1+1i), step(9, 3+2i))
	gives(t, p, busy(6, 9, 1i), api.OK)
	shows(t, p, step(0, 3+2i), step(6, 2+2i), step(8, 1+2i), step(9, 3+2i))
	gives(t, p, busy(8, 9, 2), api.OK)
	gives(t, p, busy(6, 8, 1), api.OK)
	shows(t, p, step(0, 3+2i))
	for _, need := range []complex128{1, 1i, 1 + 1i, great, great * 1i, great + great*1i} {
		gives(t, p, busy(0, forever, need), api.ErrRoom)
		gives(t, p, busy(forever-1, forever, need), api.ErrRoom)
	}
	gives(t, p, busy(0, forever, complex(zero(), zero())), api.OK)
	shows(t, p, step(0, 3+2i))
}

// P8.2: more than there is at one tick alone, in one part alone, is given back nowhere.
func TestGiveOfTooMuchAtOneTick(t *testing.T) {
	const first, last = 3, 12
	for full := first - 2; full <= last+1; full++ {
		for _, part := range []complex128{1, 1i} {
			p := made(t, 5+5i, busy(0, 20, 3+3i))
			gives(t, p, busy(full, full+1, 2*part), api.OK)
			now := stays(t, p)
			want := api.OK
			if first <= full && full < last {
				want = api.ErrRoom
			}
			gives(t, p, busy(first, last, 2+2i), want)
			if want != api.OK {
				now("what was refused")
			}
		}
	}
	whole := made(t, great+great*1i)
	gives(t, whole, busy(0, 1, great), api.ErrRoom)
	takes(t, whole, busy(0, 1, great), api.OK)
	gives(t, whole, busy(0, 2, 1), api.ErrRoom)
	gives(t, whole, busy(0, 1, great), api.OK)
	shows(t, whole, step(0, great+great*1i))
}

// P8.2: the errors' order: the span's, the amount's, the room's.
func TestErrorOrder(t *testing.T) {
	p := made(t, 2, busy(0, 5, 2))
	takes(t, p, busy(5, 5, 9), api.ErrSpan)
	takes(t, p, busy(-1, 5, -1), api.ErrSpan)
	takes(t, p, busy(0, forever+1, 0.5), api.ErrSpan)
	takes(t, p, busy(0, 5, 0.5), api.ErrAmount)
	takes(t, p, busy(0, 5, great+1), api.ErrAmount)
	takes(t, p, busy(0, 5, great), api.ErrRoom)
	gives(t, p, busy(9, 9, 9), api.ErrSpan)
	gives(t, p, busy(-1, 9, -1), api.ErrSpan)
	gives(t, p, busy(9, forever+1, 0.5), api.ErrSpan)
	gives(t, p, busy(5, 9, 0.5), api.ErrAmount)
	gives(t, p, busy(5, 9, great+1), api.ErrAmount)
	gives(t, p, busy(5, 9, great), api.ErrRoom)
	shows(t, p, step(0, 0), step(5, 2))
}

// P8.2, R4: what is refused changes nothing.
func TestWhatIsRefused(t *testing.T) {
	p := made(t, 3+2i, busy(2, 5, 2), busy(4, 9, 1+1i), busy(11, forever, 2i))
	now := stays(t, p)
	for _, b := range []api.Busy{busy(4, 5, 1), busy(0, 5, 1), busy(4, 12, 1), busy(0, forever, 1), busy(0, 12, 1i), busy(10, 12, 1i), busy(0, 1, 4), busy(9, 10, 3i), busy(forever-1, forever, 1i)} {
		takes(t, p, b, api.ErrRoom)
	}
	now("a Take without room")
	for _, b := range []api.Busy{busy(0, 1, 1), busy(0, 5, 1), busy(2, 5, 3), busy(2, 10, 1), busy(4, 10, 1i), busy(11, forever, 3i), busy(0, forever, 1i)} {
		gives(t, p, b, api.ErrRoom)
	}
	now("a Give without room")
}

// P8.2: Fits asks, and takes nothing.
func TestFitsChangesNothing(t *testing.T) {
	p := made(t, 3+2i, busy(2, 5, 2), busy(4, 9, 1+1i))
	now := stays(t, p)
	for range 5 {
		if !p.Fits(busy(0, 4, 1)) || !p.Fits(busy(9, forever, 3+2i)) || p.Fits(busy(0, 5, 1)) {
			t.Error("Fits is not what Take would answer")
		}
	}
	now("Fits")
}

// P8.3: what is free at both sides of each step, and beyond the ticks.
func TestAt(t *testing.T) {
	p := made(t, 3+1i, busy(5, 9, 2), busy(9, 12, 3+1i), busy(12, forever-1, 1i))
	for _, x := range []struct {
		at   int
		want complex128
	}{
		{0, 3 + 1i}, {1, 3 + 1i}, {4, 3 + 1i}, {5, 1 + 1i}, {6, 1 + 1i}, {8, 1 + 1i}, {9, 0}, {11, 0}, {12, 3}, {13, 3}, {1 << 20, 3},
		{forever - 2, 3}, {forever - 1, 3 + 1i},
		{-1, 0}, {-5, 0}, {leastInt, 0}, {leastInt + 1, 0}, {-forever, 0}, {forever, 0}, {forever + 1, 0}, {2 * forever, 0}, {mostInt - 1, 0}, {mostInt, 0},
	} {
		if got := p.At(x.at); got != x.want {
			t.Errorf("At(%d): %v, want %v", x.at, got, x.want)
		}
	}
}

// P8.3: no step is like the one ahead, where what was unlike becomes alike.
func TestStepsThatBecomeAlike(t *testing.T) {
	p := made(t, 3+1i, busy(0, 5, 1))
	takes(t, p, busy(5, 9, 1), api.OK)
	shows(t, p, step(0, 2+1i), step(9, 3+1i))
	takes(t, p, busy(9, forever, 1), api.OK)
	shows(t, p, step(0, 2+1i))
	takes(t, p, busy(4, 6, 1i), api.OK)
	takes(t, p, busy(6, 8, 1), api.OK)
	shows(t, p, step(0, 2+1i), step(4, 2), step(6, 1+1i), step(8, 2+1i))
	gives(t, p, busy(4, 6, 1i), api.OK)
	shows(t, p, step(0, 2+1i), step(6, 1+1i), step(8, 2+1i))
	takes(t, p, busy(0, 6, 1), api.OK)
	takes(t, p, busy(8, forever, 1), api.OK)
	shows(t, p, step(0, 1+1i))
	gives(t, p, busy(3, 4, 2), api.OK)
	gives(t, p, busy(4, 5, 1), api.OK)
	shows(t, p, step(0, 1+1i), step(3, 3+1i), step(4, 2+1i), step(5, 1+1i))
	takes(t, p, busy(3, 4, 1), api.OK)
	shows(t, p, step(0, 1+1i), step(3, 2+1i), step(5, 1+1i))
	takes(t, p, busy(3, 5, 0), api.OK)
	takes(t, p, busy(2, 9, 0), api.OK)
	gives(t, p, busy(4, 6, 0), api.OK)
	shows(t, p, step(0, 1+1i), step(3, 2+1i), step(5, 1+1i))
}

// P8.3: steps are told apart by either part, and where as much of the one is free as of the other ahead.
func TestStepsByBothParts(t *testing.T) {
	p := made(t, 2+2i, busy(0, 3, 1), busy(3, 6, 1i), busy(6, 9, 1+1i), busy(9, 12, 1))
	shows(t, p, step(0, 1+2i), step(3, 2+1i), step(6, 1+1i), step(9, 1+2i), step(12, 2+2i))
}

// P8.3: none at Forever, where something ends with it.
func TestNoStepAtForever(t *testing.T) {
	p := made(t, 3, busy(7, forever, 1), busy(forever-1, forever, 1))
	shows(t, p, step(0, 3), step(7, 2), step(forever-1, 1))
	gives(t, p, busy(forever-1, forever, 1), api.OK)
	shows(t, p, step(0, 3), step(7, 2))
	gives(t, p, busy(7, forever, 1), api.OK)
	shows(t, p, step(0, 3))
}

// P8.5: what is done to the one is not seen in the other, either way, nor in a twin's twin.
func TestTwin(t *testing.T) {
	for name, change := range map[string]func(p *profile.Profile) api.Errno{
		"Take":           func(p *profile.Profile) api.Errno { return p.Take(busy(0, 2, 1)) },
		"Take in a step": func(p *profile.Profile) api.Errno { return p.Take(busy(6, 7, 1)) },
		"Take of a step": func(p *profile.Profile) api.Errno { return p.Take(busy(5, 9, 1+1i)) },
		"Take of all":    func(p *profile.Profile) api.Errno { return p.Take(busy(0, forever, 1)) },
		"Give":           func(p *profile.Profile) api.Errno { return p.Give(busy(6, 8, 1)) },
		"Give of a step": func(p *profile.Profile) api.Errno { return p.Give(busy(5, 9, 2)) },
		"Give at an end": func(p *profile.Profile) api.Errno { return p.Give(busy(7, 9, 2)) },
	} {
		all := []*profile.Profile{made(t, 3+1i, busy(5, 9, 2))}
		all = append(all, all[0].Twin())
		all = append(all, all[1].Twin(), all[0].Twin())
		for i, p := range all {
			if !reflect.DeepEqual(tell(p), tell(all[0])) {
				t.Errorf("twin %d is another one: %v", i, p.Steps())
			}
		}
		for i, p := range all {
			var others []func(string)
			for j, q := range all {
				if j != i {
					others = append(others, stays(t, q))
				}
			}
			was := tell(p)
			if e := change(p); e != api.OK || reflect.DeepEqual(tell(p), was) {
				t.Errorf("%s of twin %d: %d, %v", name, i, e, p.Steps())
			}
			for _, other := range others {
				other(name + " of a twin")
			}
		}
	}
}

// P8.5: a twin has the same amount: as much is given back to it, and no more.
func TestTwinOfAnAmount(t *testing.T) {
	for _, cap := range []complex128{0, 2, 3 + 1i, great + great*1i} {
		p := made(t, cap, busy(0, forever, cap))
		q := p.Twin()
		shows(t, q, step(0, 0))
		gives(t, q, busy(0, 5, cap+1), map[bool]api.Errno{true: api.ErrAmount, false: api.ErrRoom}[real(cap) == great])
		gives(t, q, busy(0, 5, cap), api.OK)
		gives(t, q, busy(4, 5, 1i), api.ErrRoom)
		shows(t, p, step(0, 0))
		fresh := made(t, cap)
		shows(t, fresh.Twin(), step(0, cap))
		gives(t, fresh.Twin(), busy(0, forever, 1), api.ErrRoom)
	}
}
