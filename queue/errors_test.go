package queue_test

import (
	"slices"
	"testing"

	"hanse/api"
)

// fault makes one error's words hold, and no other's.
type fault struct {
	e    api.Errno
	turn func(a *ask)
}

// kinds answers faults of each error, in the chapter's order.
func kinds() [][]fault {
	job := func(f func(j *api.Job)) fault { return fault{api.ErrJob, func(a *ask) { f(&a.j) }} }
	sites := func(l ...int) fault { return fault{api.ErrSites, func(a *ask) { a.j.Sites = l }} }
	return [][]fault{
		{{api.ErrPeer, func(a *ask) { a.me = -1 }}, {api.ErrPeer, func(a *ask) { a.me = len(a.caps) }}, {api.ErrPeer, func(a *ask) { a.caps = append(a.caps, alike(60, 1)...) }}, {api.ErrPeer, func(a *ask) { a.me = mostInt }}},
		{job(func(j *api.Job) { j.ID.At = 1 }), job(func(j *api.Job) { j.ID.N = 1 }), job(func(j *api.Job) { j.Run = 0 }), job(func(j *api.Job) { j.Run = leastInt }), job(func(j *api.Job) { j.Base = -1 }), job(func(j *api.Job) { j.Base = 101 })},
		{{api.ErrWall, func(a *ask) { a.j.Wall = 65537 }}, {api.ErrWall, func(a *ask) { a.j.Wall = mostInt }}},
		{sites(2, 0), sites(0, 0), sites(0, 99), sites(-1, 0), sites(0, 1, 2, 3, 4, 5, 6, 7, 8), {api.ErrSites, func(a *ask) { a.j.Sites, a.j.Pact = []int{0}, true }}},
		{{api.ErrFit, func(a *ask) { a.caps[0] = 2 + 9i }}, {api.ErrFit, func(a *ask) { a.caps[0] = 9 }}, {api.ErrFit, func(a *ask) { a.caps[0] = 9.5 }}},
		{{api.ErrAfter, func(a *ask) { a.j.After = 9999 }}, {api.ErrAfter, func(a *ask) { a.j.After = 3 }}},
		{{api.ErrUser, func(a *ask) { a.owns = append(a.owns, crowd(100, 16, 3, api.OwnOpen)...) }}, {api.ErrUser, func(a *ask) { a.owns = append(a.owns, crowd(100, 20, 3, api.OwnBreaking)...) }}},
		{{api.ErrFull, func(a *ask) { a.owns = append(a.owns, crowd(200, 64, 9, api.OwnClosed)...) }}, {api.ErrFull, func(a *ask) { a.owns = append(a.owns, crowd(200, 61, 9, api.OwnOpen)...) }}},
	}
}

// spoilt answers the common ask, at a federation that is great enough, with these faults.
func spoilt(l ...fault) ask {
	a := common()
	a.caps = alike(12, 4+4i)
	for _, f := range l {
		f.turn(&a)
	}
	return a
}

// R4: each fault is told alone.
func TestAdmitEachErrorAlone(t *testing.T) {
	for _, kind := range kinds() {
		for _, f := range kind {
			a := spoilt(f)
			if l := faults(a); !slices.Equal(l, []api.Errno{f.e}) {
				t.Fatalf("for %d: %v", f.e, l)
			}
			answers(t, a, f.e)
		}
	}
}

// R4: of each two errors at once the first one is told, by whatever faults.
func TestAdmitEachPairOfErrors(t *testing.T) {
	l := kinds()
	for i, first := range l {
		for _, second := range l[i+1:] {
			for _, f := range first {
				for _, g := range second {
					for _, a := range []ask{spoilt(f, g), spoilt(g, f)} {
						if both := faults(a); !slices.Equal(both, []api.Errno{f.e, g.e}) {
							t.Fatalf("for %d and %d: %v", f.e, g.e, both)
						}
						answers(t, a, f.e)
					}
				}
			}
		}
	}
}

// R4: of all sets of errors at once the first one is told.
func TestAdmitEachSetOfErrors(t *testing.T) {
	l := kinds()
	for set := range 1 << len(l) {
		for turn := range 6 {
			var some []fault
			var want []api.Errno
			for i, kind := range l {
				if set>>i&1 == 1 {
					f := kind[(turn+i)%len(kind)]
					some, want = append(some, f), append(want, f.e)
				}
			}
			a := spoilt(some...)
			if got := faults(a); !slices.Equal(got, want) {
				t.Fatalf("for %v: %v", want, got)
			}
			answers(t, a, append(want, api.OK)[0])
		}
	}
}

// R4: a job that is not right in a word that counts for a later error, too, is told by the earlier one.
func TestAdmitErrorsOfOneWord(t *testing.T) {
	for _, x := range []struct {
		turn func(a *ask)
		want api.Errno
	}{
		{func(a *ask) { a.j.User, a.owns = -1, crowd(1, 20, -1, api.OwnOpen) }, api.ErrJob},
		{func(a *ask) { a.j.User, a.owns = 16, crowd(1, 70, 16, api.OwnOpen) }, api.ErrJob},
		{func(a *ask) { a.j.After, a.owns = -1, nil }, api.ErrJob},
		{func(a *ask) { a.j.Need = 1.5 }, api.ErrJob},
		{func(a *ask) { a.j.Need = 1048577 }, api.ErrJob},
		{func(a *ask) { a.j.Need, a.j.Wall = 5i, mostInt }, api.ErrJob},
		{func(a *ask) { a.j.Wall, a.j.Sites = 0, nil }, api.ErrJob},
		{func(a *ask) { a.j.Wall, a.j.Sites = 65537, nil }, api.ErrWall},
		{func(a *ask) { a.j.Sites, a.caps[2] = []int{2, 0}, 0 }, api.ErrSites},
		{func(a *ask) { a.j.Sites, a.caps[2] = []int{0, 2, 9}, 0 }, api.ErrSites},
		{func(a *ask) { a.caps[3], a.j.After = 0, 9 }, api.ErrFit},
		{func(a *ask) { a.j.After, a.owns = 99, crowd(1, 70, 3, api.OwnOpen) }, api.ErrAfter},
		{func(a *ask) { a.j.After, a.owns = 1, crowd(1, 70, 3, api.OwnOpen) }, api.ErrUser},
		{func(a *ask) { a.j.After, a.owns = 1, crowd(1, 70, 3, api.OwnClosed) }, api.ErrFull},
		{func(a *ask) { a.caps, a.j.Sites = nil, []int{0} }, api.ErrPeer},
		{func(a *ask) {
			*a = ask{j: api.Job{Wall: mostInt, User: 99, Pact: true}, owns: crowd(1, 70, 99, api.OwnOpen)}
		}, api.ErrPeer},
	} {
		answers(t, with(x.turn), x.want)
	}
}
