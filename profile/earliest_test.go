package profile_test

import (
	"math"
	"testing"

	"hanse/api"
	"hanse/profile"
)

// finds tells a fault, unless Earliest answers that tick.
func finds(t *testing.T, p *profile.Profile, need complex128, dur, from, want int) {
	t.Helper()
	if at, is := p.Earliest(need, dur, from); at != want || !is {
		t.Errorf("Earliest(%v, %d, %d): %d, %v, want %d, of %v", need, dur, from, at, is, want, p.Steps())
	}
}

// findsNone tells a fault, unless Earliest answers that there is no tick.
func findsNone(t *testing.T, p *profile.Profile, need complex128, dur, from int) {
	t.Helper()
	if at, is := p.Earliest(need, dur, from); at != 0 || is {
		t.Errorf("Earliest(%v, %d, %d): %d, %v, want none, of %v", need, dur, from, at, is, p.Steps())
	}
}

// P8.4: what is no amount finds no place.
func TestEarliestOfNoAmount(t *testing.T) {
	for _, p := range []*profile.Profile{made(t, 3+1i, busy(5, 9, 2)), made(t, great+great*1i), made(t, 0)} {
		for _, need := range noAmounts() {
			findsNone(t, p, need, 1, 0)
			findsNone(t, p, need, 4, 5)
			findsNone(t, p, need, forever, 0)
		}
	}
}

// P8.4: wrong lengths, and ticks that are none.
func TestEarliestOfWrongTicks(t *testing.T) {
	p := made(t, 3+1i, busy(5, 9, 2))
	for _, need := range []complex128{0, 1, 2, 3 + 1i, 9} {
		for _, dur := range []int{0, -1, -5, -forever, leastInt, leastInt + 1, forever + 1, 2 * forever, mostInt, mostInt - 1} {
			for _, from := range []int{0, 1, 5, 7, forever - 1, forever} {
				findsNone(t, p, need, dur, from)
			}
		}
		for _, from := range []int{-1, -4, -forever, leastInt, leastInt + 1, forever, forever + 1, 2 * forever, mostInt, mostInt - 1} {
			for _, dur := range []int{1, 2, 4, forever - 1, forever, mostInt} {
				findsNone(t, p, need, dur, from)
			}
		}
	}
}

// P8.4: a need beyond cap fits nowhere, one of 0 everywhere.
func TestEarliestOfMuchAndNothing(t *testing.T) {
	p := made(t, 3+1i, busy(5, 9, 3+1i))
	for _, need := range []complex128{4, 2i, 4 + 1i, 3 + 2i, 4 + 2i, great, great * 1i} {
		findsNone(t, p, need, 1, 0)
		findsNone(t, p, need, 1, 9)
	}
	for _, need := range []complex128{0, complex(zero(), 0), complex(0, zero()), complex(zero(), zero())} {
		finds(t, p, need, 1, 0, 0)
		finds(t, p, need, 1, 7, 7)
		finds(t, p, need, 100, 3, 3)
		finds(t, p, need, forever, 0, 0)
		findsNone(t, p, need, forever, 1)
		finds(t, made(t, 0), need, forever, 0, 0)
	}
	findsNone(t, made(t, 0), 1, 1, 0)
	findsNone(t, made(t, 2, busy(0, forever, 2)), 1, 1, 0)
	finds(t, made(t, great+great*1i), great+great*1i, forever, 0, 0)
}

// P8.4: the place is `from` itself, in the midst of a step, wherever it fits there.
func TestEarliestIsFrom(t *testing.T) {
	p := made(t, 3+1i, busy(5, 9, 2), busy(20, forever, 1))
	finds(t, p, 3, 1, 0, 0)
	finds(t, p, 3, 1, 4, 4)
	finds(t, p, 3, 2, 3, 3)
	finds(t, p, 1, 1, 7, 7)
	finds(t, p, 1+1i, 30, 7, 7)
	finds(t, p, 3, 5, 15, 15)
	finds(t, p, 3, 5, 11, 11)
	finds(t, p, 2, 1, 1<<30, 1<<30)
	finds(t, p, complex(2, zero()), forever-21, 21, 21)
}

// P8.4: the place is at a change of what is free: behind what stands in its way.
func TestEarliestIsAtAChange(t *testing.T) {
	p := made(t, 3+1i, busy(5, 9, 2), busy(20, forever, 1))
	finds(t, p, 2, 4, 2, 9)
	finds(t, p, 3, 1, 5, 9)
	finds(t, p, 3, 11, 0, 9)
	finds(t, p, 2, 6, 0, 9)
	finds(t, p, 2+1i, 5, 3, 9)
	finds(t, p, 2, 1, 8, 9)
	finds(t, p, 2, 1, 5, 9)
	finds(t, made(t, 2, busy(0, 7, 1)), 2, 3, 0, 7)
	finds(t, made(t, 1i, busy(0, 7, 1i)), 1i, 3, 6, 7)
	// What ends ahead does not help, where another one goes on.
	finds(t, made(t, 3, busy(0, 4, 1), busy(0, 8, 1), busy(8, 10, 1)), 3, 2, 0, 10)
}

// P8.4: a gap that is one tick too short, and one that is just long enough.
func TestEarliestInGaps(t *testing.T) {
	p := made(t, 2, busy(0, 3, 2), busy(7, 9, 1), busy(14, 15, 1), busy(21, 22, 2))
	for dur, want := range map[int]int{1: 3, 3: 3, 4: 3, 5: 9, 6: 15, 7: 22, forever - 22: 22} {
		finds(t, p, 2, dur, 0, want)
	}
	findsNone(t, p, 2, forever-21, 0)
	finds(t, p, 1, 18, 0, 3)
	finds(t, p, 1, 19, 0, 22)
	finds(t, p, 2, 3, 4, 4)
	finds(t, p, 2, 4, 4, 9)
	finds(t, p, 2, 5, 10, 15)
}

// P8.4: what ends just at Forever, and what would end one tick beyond it.
func TestEarliestAtForever(t *testing.T) {
	p := made(t, 3+1i)
	finds(t, p, 3+1i, 1, forever-1, forever-1)
	findsNone(t, p, 3+1i, 2, forever-1)
	findsNone(t, p, 0, 2, forever-1)
	findsNone(t, p, 0, 1, forever)
	finds(t, p, 1, forever, 0, 0)
	findsNone(t, p, 1, forever, 1)
	finds(t, p, 1, forever-1, 1, 1)
	findsNone(t, p, 1, forever-1, 2)
	findsNone(t, p, 1, forever, forever)
	late := made(t, 3, busy(0, forever-5, 1))
	finds(t, late, 3, 5, 0, forever-5)
	findsNone(t, late, 3, 6, 0)
	finds(t, late, 2, 6, 0, 0)
	findsNone(t, late, 2, 6, forever-5)
	last := made(t, 3, busy(forever-1, forever, 1))
	finds(t, last, 3, forever-1, 0, 0)
	findsNone(t, last, 3, forever, 0)
	findsNone(t, last, 3, 1, forever-1)
	finds(t, last, 2, 1, forever-1, forever-1)
}

// P8.4: unlike steps that suffice one behind the other are one place.
func TestEarliestOverUnlikeSteps(t *testing.T) {
	p := made(t, 5+5i, busy(0, 4, 4), busy(4, 7, 3+1i), busy(7, 9, 1+3i), busy(9, 12, 3i), busy(12, 13, 4+4i))
	finds(t, p, 2+2i, 8, 0, 4)
	findsNone(t, p, 6, 1, 0)
	finds(t, p, 2+2i, 9, 0, 13)
	finds(t, p, 1, 13, 0, 0)
	finds(t, p, 2, 8, 2, 4)
	finds(t, p, 2, 9, 2, 13)
	finds(t, p, 4+2i, 5, 0, 7)
	finds(t, p, 4+2i, 3, 8, 8)
	// Enough of the one part here, of the other one there, is no place.
	q := made(t, 2+2i, busy(0, 5, 1), busy(5, 9, 1i))
	finds(t, q, 2+2i, 1, 0, 9)
	finds(t, q, 1+1i, 9, 0, 0)
	finds(t, q, 2+1i, 2, 0, 5)
	finds(t, q, 1+2i, 5, 0, 0)
	finds(t, q, 1+2i, 6, 0, 9)
}

// P8.4: Earliest asks, and takes nothing; what it finds fits, and Take finds it free.
func TestEarliestChangesNothing(t *testing.T) {
	p := made(t, 3+1i, busy(5, 9, 2))
	now := stays(t, p)
	for range 3 {
		finds(t, p, 2, 6, 0, 9)
		findsNone(t, p, 4, 6, 0)
		findsNone(t, p, complex(math.NaN(), 0), 6, 0)
	}
	now("Earliest")
	takes(t, p, busy(9, 15, 2), api.OK)
	finds(t, p, 2, 6, 0, 15)
	gives(t, p, busy(7, 9, 2), api.OK)
	gives(t, p, busy(9, 13, 2), api.OK)
	finds(t, p, 2, 6, 0, 7)
}

// search answers the earliest place, tick by tick, where nothing changes from the tick last on.
func search(p *profile.Profile, need complex128, dur, from, last int) found {
	for at := from; at+dur <= forever; at++ {
		if holds(p, need, at, min(at+dur, max(at, last)+1)) {
			return found{at, true}
		}
		if at > last {
			break
		}
	}
	return found{}
}

// holds tells whether need fits into what is free at each tick.
func holds(p *profile.Profile, need complex128, from, to int) bool {
	for at := from; at < to; at++ {
		if free := p.At(at); real(need) > real(free) || imag(need) > imag(free) {
			return false
		}
	}
	return true
}

// scene is what is taken of 2 + 1i: so many thirds of a row of ticks, from `first` on, where 0 is nothing, 1 one node, 2 all.
func scene(t *testing.T, thirds, first, last int) *profile.Profile {
	t.Helper()
	p := made(t, 2+1i)
	for at := first; at <= last; at++ {
		to := at + 1
		if at == last && last < forever-1 {
			to = forever
		}
		if need := []complex128{0, 1, 2 + 1i}[thirds%3]; need != 0 {
			takes(t, p, busy(at, to, need), api.OK)
		}
		thirds /= 3
	}
	return p
}

// P8.4: each answer is that of a search tick by tick, in all profiles of few ticks.
func TestEarliestTickByTick(t *testing.T) {
	const ticks = 6
	for _, first := range []int{0, 3, forever - ticks} {
		last := first + ticks - 1
		for thirds := range 729 {
			p := scene(t, thirds, first, last)
			for _, need := range []complex128{0, 1, 2, 1 + 1i} {
				for from := max(first-2, 0); from <= min(last+2, forever); from++ {
					for _, dur := range []int{1, 2, 3, 4, 5, 6, 7, 9, forever - last - 1, forever - last, forever - 3, forever} {
						at, is := p.Earliest(need, dur, from)
						if got, want := (found{at, is}), searchRight(p, need, dur, from, last); got != want {
							t.Fatalf("Earliest(%v, %d, %d): %v, want %v, of %v", need, dur, from, got, want, p.Steps())
						}
					}
				}
			}
		}
	}
}

// searchRight is search, but answers that there is none of a length below 1.
func searchRight(p *profile.Profile, need complex128, dur, from, last int) found {
	if dur < 1 {
		return found{}
	}
	return search(p, need, dur, from, last)
}
