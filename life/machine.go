package life

import "hanse/api"

// machine goes by the events that next answers, from where there is no copy on, as long as there is a row, and answers where that ends.
// It is the chapter's table: its labels are the states.
func machine(next func() int) int {
absent:
	if next() != Come {
		return absent
	}
	goto queued
queued:
	switch next() {
	case Take:
		goto locked
	case Hold:
		goto held
	case End:
		goto ended
	case Drop:
		goto absent
	}
	return api.CopyQueued
locked:
	switch next() {
	case Release:
		goto free
	case Start:
		goto running
	case End:
		goto ended
	}
	return api.CopyLocked
free:
	if next() != Freed {
		return api.CopyFree
	}
	goto queued
held:
	switch next() {
	case Loose:
		goto queued
	case Bind:
		goto bound
	}
	return api.CopyHeld
bound:
	switch next() {
	case Start:
		goto running
	case End:
		goto ended
	}
	return api.CopyBound
running:
	if next() != End {
		return api.CopyRunning
	}
	goto ended
ended:
	if next() != Drop {
		return api.CopyEnded
	}
	goto absent
}
