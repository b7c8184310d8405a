package queue_test

import (
	"testing"

	"hanse/amount"
	"hanse/api"
	"hanse/profile"
	"hanse/queue"
)

// fitsEverywhere tells a fault, unless the job, by itself, may run at once on each of its sites.
func fitsEverywhere(t *testing.T, a ask) {
	t.Helper()
	for _, site := range a.j.Sites {
		if !amount.Fits(a.j.Need, a.caps[site]) {
			t.Fatalf("%v was taken, though it does not fit into %v", a.j, a.caps[site])
		}
		p, e := profile.New(a.caps[site])
		if e != api.OK {
			t.Fatalf("%v was taken, though nothing runs on %v: %d", a.j, a.caps[site], e)
		}
		if at, ok := p.Earliest(a.j.Need, a.j.Wall, 0); !ok || at != 0 {
			t.Fatalf("%v was taken, and may start on %v at %d, %v", a.j, a.caps[site], at, ok)
		}
		for _, from := range []int{0, 1, forever - a.j.Wall} {
			if e := p.Take(api.Busy{From: from, To: from + a.j.Wall, Need: a.j.Need}); e != api.OK {
				t.Fatalf("%v was taken, and %v has no room for it from %d on: %d", a.j, a.caps[site], from, e)
			}
			if e := p.Give(api.Busy{From: from, To: from + a.j.Wall, Need: a.j.Need}); e != api.OK {
				t.Fatalf("%v on %v: %d", a.j, a.caps[site], e)
			}
		}
	}
}

// P12.3: a job that is taken fits into each of its sites, by itself.
func TestTakenFits(t *testing.T) {
	taken := 0
	for seed := range uint64(20000) {
		roll := dice(seed)
		a := someAsk(roll)
		for range roll(3) {
			twist(roll, &a)
		}
		if queue.Admit(a.caps, a.me, a.owns, a.j) != api.OK {
			continue
		}
		taken++
		fitsEverywhere(t, a)
	}
	if taken < 2000 {
		t.Errorf("%d were taken", taken)
	}
}

// P12.3: all small needs on all small sites: what fits is taken, what is taken fits.
func TestTakenIsWhatFits(t *testing.T) {
	parts := []float64{0, 1, 2, 3, 0.5, -1}
	for _, n := range parts {
		for _, l := range parts {
			for _, x := range parts {
				for _, y := range parts {
					a := ask{[]complex128{9 + 9i, complex(x, y), 0}, 2, nil, api.Job{Need: complex(n, l), Wall: 5, Run: 5, Sites: []int{0, 1}}}
					switch asModelled(t, a) {
					case api.OK:
						fitsEverywhere(t, a)
					case api.ErrFit:
						if amount.Fits(a.j.Need, a.caps[1]) {
							t.Errorf("%v fits into %v", a.j.Need, a.caps[1])
						}
					}
				}
			}
		}
	}
}

// P12.3: whatever else is asked, where one of the sites is too small nothing is taken.
func TestTooSmallIsNotTaken(t *testing.T) {
	for seed := range uint64(5000) {
		roll := dice(seed)
		a := someAsk(roll)
		if len(a.j.Sites) == 0 {
			continue
		}
		site := a.j.Sites[roll(len(a.j.Sites))]
		a.caps[site] = pick(roll, complex(real(a.j.Need)-1, 1048576), 1048576, complex(1048576, imag(a.j.Need)-1), complex(0, imag(a.j.Need)))
		if amount.Fits(a.j.Need, a.caps[site]) {
			continue
		}
		if queue.Admit(a.caps, a.me, a.owns, a.j) == api.OK {
			t.Errorf("%v was taken, with %v at %d", a.j, a.caps[site], site)
		}
	}
}

// T6: who was refused may ask again, and is answered as if nothing had been.
func TestRefusedChangesNothing(t *testing.T) {
	for seed := range uint64(2000) {
		roll := dice(seed)
		a, other := someAsk(roll), someAsk(roll)
		for range 3 {
			twist(roll, &other)
		}
		was := asModelled(t, a)
		asModelled(t, other)
		answers(t, a, was)
	}
}
