// Package tick is layer 1: whole numbers from 0 to api.Forever, which stands for 'never'. See ../shared/doc/01-tick.md.
package tick

import "hanse/api"

// maxTerm is the greatest number that a share is made with: a tick times it still fits an int.
const maxTerm = 1 << 20

// Right tells whether t is a tick.
func Right(t int) bool {
	return 0 <= t && t <= api.Forever
}

// Add answers the tick that lies d behind t, Forever at most.
func Add(t, d int) (int, api.Errno) {
	if !Right(t) || !Right(d) {
		return 0, api.ErrTick
	}
	return atMostForever(t + d), api.OK
}

// Sub answers the tick that lies d ahead of t, 0 at least; ahead of never is never.
func Sub(t, d int) (int, api.Errno) {
	if !Right(t) || !Right(d) {
		return 0, api.ErrTick
	}
	if t == api.Forever {
		return api.Forever, api.OK
	}
	return max(t-d, 0), api.OK
}

// Share answers num parts of den of t, rounded down, Forever at most.
func Share(t, num, den int) (int, api.Errno) {
	if !rightShare(t, num, den) {
		return 0, api.ErrTick
	}
	if t == api.Forever {
		return api.Forever, api.OK
	}
	return atMostForever(t * num / den), api.OK
}

// ShareUp answers num parts of den of t, rounded up, Forever at most.
func ShareUp(t, num, den int) (int, api.Errno) {
	if !rightShare(t, num, den) {
		return 0, api.ErrTick
	}
	if t == api.Forever {
		return api.Forever, api.OK
	}
	return atMostForever((t*num + den - 1) / den), api.OK
}

// Least answers the least tick of l, Forever if there is none.
func Least(l ...int) (int, api.Errno) {
	least := api.Forever
	for _, t := range l {
		if !Right(t) {
			return 0, api.ErrTick
		}
		least = min(least, t)
	}
	return least, api.OK
}

func rightShare(t, num, den int) bool {
	return Right(t) && 0 <= num && num <= maxTerm && 1 <= den && den <= maxTerm
}

func atMostForever(t int) int {
	return min(t, api.Forever)
}
